/- greatestFirst: its closure, the sort by the library's contract, the order. -/
import Derived.Test.YtedjmpifkgonhaaScmp
import Derived.Test.YtedjmpifkgonhaaSord
import Derived.Test.YtedjmpifkgonhaaWbox
import Derived.StillTailTactics
namespace Go.Proofs.Ytedjmpifkgonhaa
open Go.RowKit Hb Sm Sx
open Go.Sort (grow grow_empty heap_grow_old)

def nv (n : Nat) : Value := .int .i64 (n : Int)
theorem nv_one (n : Nat) : (nv n).oneCell' = true := rfl
/-- what the closure answers of two indices -/
def gfI (rs : List Nat) (i j : Nat) : Int := orI (cmpI (rs.getD j 0 : Int) (rs.getD i 0 : Int)) (cmpI i j)
theorem gfI_lt (rs : List Nat) (i j : Nat) : gfI rs i j < 0 ↔ before rs i j := by
  unfold gfI orI cmpI before
  simp only [Int.ofNat_lt]
  generalize rs.getD j 0 = y
  generalize rs.getD i 0 = x
  by_cases k1 : y < x
  · simp [k1]
  · by_cases k2 : x < y
    · simp [k1, k2]; omega
    · by_cases k3 : i < j
      · simp [k1, k2, k3]; omega
      · by_cases k4 : j < i
        · simp [k1, k2, k3, k4]
        · simp [k1, k2, k3, k4]
theorem cmp_i64' (x y : Int) (w : World) : Calls Try.prog 56 #[.int .i64 x, .int .i64 y] w fun e w' => e = .returned (.int .i64 (cmpI x y)) ∧ w' = w :=
  (cmp_i64 x y w).mono fun _ _ ⟨he, hw⟩ => ⟨he, hw.symm⟩

set_option maxRecDepth 100000 in
set_option maxHeartbeats 2000000 in
theorem gf_closure (rs : List Nat) (n c : Nat) (a : Addr) (p : Nat) (W : World) (hbox : W.cell? ⟨p, 0, none⟩ = some (.slice (some a) n c))
    (hc : ∀ k : Nat, k < n → W.cell? (a.add k) = some (nv (rs.getD k 0))) (i j : Nat) (hi : i < n) (hj : j < n) :
    Calls Try.prog 55 #[.int .i64 i, .int .i64 j, .pointer (some ⟨p, 0, none⟩)] W fun e w' => e = .returned (.int .i64 (gfI rs i j)) ∧ ∃ q os, w' = grow (W.drewN q) os := by
  have c1 := hc i hi
  have c2 := hc j hj
  unfold nv at c1 c2
  obtain ⟨x, hx⟩ : ∃ x : Int, x = (rs.getD i 0 : Int) := ⟨_, rfl⟩
  obtain ⟨y, hy⟩ : ∃ y : Int, y = (rs.getD j 0 : Int) := ⟨_, rfl⟩
  rw [← hx] at c1
  rw [← hy] at c2
  have HR := Lib.hid (show gfI rs i j = orI (cmpI y x) (cmpI i j) from by unfold gfI; rw [hx, hy])
  clear hx hy hc
  have hmx : Try.prog.follows .mixedOrders = true := by kernel_rfl
  have bi : (i : Int) < (n : Int) := by omega
  have bj : (j : Int) < (n : Int) := by omega
  go_enter Try.func55, Try.ntmps55
  go_wp2_with fail
  refine wp_region_still_tail 12 hmx (by kernel_rfl) ?_
  simp only [List.take_succ_cons, List.take_zero, List.drop_succ_cons, List.drop_zero]
  repeat still_step
  still_call (cmp_i64' _ _ _)
  repeat still_step
  still_call (cmp_i64' _ _ _)
  repeat still_step
  try refine wpStill_nil ?_
  obtain ⟨u, hu⟩ : ∃ u, u = cmpI y x := ⟨_, rfl⟩
  obtain ⟨v, hv⟩ : ∃ v, v = cmpI i j := ⟨_, rfl⟩
  rw [← hu, ← hv] at HR
  simp only [← hu, ← hv]
  clear hu hv c1 c2 hbox
  change wpList _ _ _ _ _ W.drew
  obtain ⟨w2, hw2⟩ : ∃ w2, w2 = W.drew := ⟨_, rfl⟩
  rw [← hw2]
  have HW := Lib.hid hw2
  clear hw2
  go_wp2_with fail
  refine (or_any w2.heap.size u v _ (by simp) (by simp)).mono ?_
  rintro e W' ⟨rfl, rfl⟩
  go_wp2_with fail
  go_ret
  exact ⟨by rw [HR.out]; rfl, 1, #[_], by rw [HW.out]; rfl⟩

theorem sw_cell {α : Type} [Inhabited α] (enc : α → Value) (w : World) (blk off m : Nat) (dk : Array α) (os : Array Obj) (a : Addr) (v : Value) (hb : a.block ≠ blk) (h : w.cell? a = some v) : (sortWorld enc w blk off m dk os).cell? a = some v := by
  have hlt := cell_lt h
  unfold sortWorld
  rw [Go.Sort.cell?_grow _ _ _ (by rw [Go.Sort.size_putRow]; exact hlt), Go.Sort.cell?_putRow_other _ _ _ _ _ _ (.inl hb)]
  exact h
theorem sw_below {α : Type} [Inhabited α] (enc : α → Value) (w : World) (blk off m : Nat) (dk : Array α) (os : Array Obj) (B : Nat) (hB : B ≤ w.heap.size) (hb : B ≤ blk) : Below B w (sortWorld enc w blk off m dk os) := by
  unfold sortWorld
  refine ⟨rfl, rfl, rfl, by simp [grow, Go.Sort.putRow, Go.Sort.mapBlock, Go.Sort.ahead], fun k hk => ?_⟩
  rw [heap_grow_old _ _ (by rw [Go.Sort.size_putRow]; show k < w.heap.size; omega)]
  have : blk ≠ k := by omega
  simp [Go.Sort.putRow, Go.Sort.mapBlock, Go.Sort.ahead, Array.getElem?_modify, this]
def fe (m : Nat) (x : Fin (m + 1)) : Value := nv x.val
def fcf (rs : List Nat) (m : Nat) (x y : Fin (m + 1)) : Int := gfI rs x.val y.val
def fd (m : Nat) : Array (Fin (m + 1)) := Array.ofFn id
theorem fd_size (m : Nat) : (fd m).size = m + 1 := by simp [fd]
theorem fd_get (m k : Nat) (h : k < m + 1) : ((fd m)[k]!).val = k := by
  rw [getElem!_pos _ k (by rw [fd_size]; exact h)]
  simp [fd]
theorem fd_range (m : Nat) : (fd m).toList.map Fin.val = List.range (m + 1) := by
  apply List.ext_getElem
  · simp [fd]
  · intro i h1 h2
    rw [List.getElem_map, Array.getElem_toList, List.getElem_range]
    simp only [fd, Array.getElem_ofFn]
    rfl
theorem extract_all {α : Type} (d : Array α) (n : Nat) (h : d.size = n) : d.extract 0 n = d := by subst h; simp
theorem fcf_lt (rs : List Nat) (m : Nat) (x y : Fin (m + 1)) : ltOf (fcf rs m) x y = decide (before rs x.val y.val) := by
  unfold ltOf fcf
  exact decide_eq_decide.2 (gfI_lt rs _ _)
theorem fcf_swo (rs : List Nat) (m : Nat) : Go.Sort.SWO (ltOf (fcf rs m)) where
  irrefl x := by rw [fcf_lt]; simp [before]
  trans x y z h1 h2 := by
    rw [fcf_lt] at *
    simp only [decide_eq_true_eq] at *
    exact before_trans h1 h2
  ntrans x y z h1 h2 := by
    rw [fcf_lt] at *
    simp only [decide_eq_false_iff_not] at *
    unfold before at *
    omega
theorem fd_ord (rs : List Nat) (m : Nat) (hl : rs.length = m + 1) (d' : Array (Fin (m + 1))) (hp : Go.Sort.PermIn 0 (m + 1) (fd m) d') (hs : Go.Sort.SortedIn (ltOf (fcf rs m)) 0 (m + 1) d') :
    d'.toList.map Fin.val = ord rs := by
  obtain ⟨h1, _, h3⟩ := hp
  rw [fd_size] at h1
  rw [extract_all d' _ h1, extract_all (fd m) _ (fd_size m)] at h3
  refine ord_unique rs _ ?_ ?_
  · rw [hl, ← fd_range m]
    exact h3.map _
  · intro a b hab i j hi hj
    rw [List.getElem?_map] at hi hj
    obtain ⟨x, hx, rfl⟩ := Option.map_eq_some_iff.1 hi
    obtain ⟨y, hy, rfl⟩ := Option.map_eq_some_iff.1 hj
    obtain ⟨ha, hx⟩ := List.getElem?_eq_some_iff.1 hx
    obtain ⟨hb, hy⟩ := List.getElem?_eq_some_iff.1 hy
    have ha' : a < d'.size := by simpa using ha
    have hb' : b < d'.size := by simpa using hb
    have := hs a b (Nat.zero_le _) hab (by omega)
    rw [fcf_lt, getElem!_pos d' a ha', getElem!_pos d' b hb'] at this
    have hx' : d'[a] = x := by rw [← hx]; simp
    have hy' : d'[b] = y := by rw [← hy]; simp
    rw [hx', hy'] at this
    exact of_decide_eq_false this

set_option maxHeartbeats 1000000 in
theorem gf_sort (rs : List Nat) (m : Nat) (hl : rs.length = m + 1) (hm : m + 1 ≤ 1000) (a : Addr) (c p blk cap : Nat) (w : World) (hbox : w.cell? ⟨p, 0, none⟩ = some (.slice (some a) (m + 1) c))
    (hc : ∀ k : Nat, k < m + 1 → w.cell? (a.add k) = some (nv (rs.getD k 0))) (hpb : p ≠ blk) (hab : a.block ≠ blk) (hbs : blk < w.heap.size)
    (hH : ∀ k, k < m + 1 → w.cell? ⟨blk, k, none⟩ = some (nv k) ∧ w.frozen? ⟨blk, k, none⟩ = false) :
    Calls Try.prog 54 #[.slice (some ⟨blk, 0, none⟩) (m + 1) cap, .func (.func 55) #[] #[.pointer (some ⟨p, 0, none⟩)]] w fun e w' =>
      e = .returned (.tuple #[]) ∧ (∀ k v : Nat, (ord rs)[k]? = some v → w'.cell? ⟨blk, k, none⟩ = some (nv v)) ∧ ∀ B, B ≤ blk → B ≤ w.heap.size → Below B w w' := by
  have eg : ∀ args w, (callFunc 55 args).run Try.prog w = .ok (.enter 55 args) w := enters_of Try.func55 (by kernel_rfl) rfl
  have hcmp : CmpLays1 Try.prog 55 #[.pointer (some ⟨p, 0, none⟩)] (fe m) (fcf rs m) blk 0 (fd m).size w := by
    intro q os dk hs x y
    refine gf_closure rs (m + 1) c a p _ (sw_cell _ _ _ _ _ _ _ _ _ hpb hbox) (fun k hk => sw_cell _ _ _ _ _ _ _ _ _ (by rw [add_block]; exact hab) (hc k hk)) x.val y.val x.isLt y.isLt
  have hHo : Go.Sort.Holds (fe m) w blk 0 (fd m) := by
    intro j hj
    rw [fd_size] at hj
    rw [Nat.zero_add]
    unfold fe
    rw [fd_get m j hj]
    exact hH j hj
  have h := Any.slices_SortFunc Try.laySort (fe m) (fun _ => rfl) (fcf rs m) (fcf_swo rs m) 55 #[.pointer (some ⟨p, 0, none⟩)] blk 0 cap (fd m) w eg hcmp hHo hbs (by rw [fd_size]; omega)
  rw [fd_size] at h
  refine h.mono ?_
  rintro e w' ⟨rfl, d', N, os, hp, hs, rfl⟩
  have ho := fd_ord rs m hl d' hp hs
  have hsz : d'.size = (fd m).size := hp.1
  have hh := holds_sortWorld (fe m) w blk 0 N (fd m) d' os hbs hHo hsz
  refine ⟨rfl, fun k v hv => ?_, fun B hB hB2 => sw_below _ _ _ _ _ _ _ _ hB2 hB⟩
  rw [← ho, List.getElem?_map] at hv
  obtain ⟨x, hx, rfl⟩ := Option.map_eq_some_iff.1 hv
  obtain ⟨hk, hx⟩ := List.getElem?_eq_some_iff.1 hx
  have hk' : k < d'.size := by simpa using hk
  have := (hh k hk').1
  rw [Nat.zero_add, getElem!_pos d' k hk'] at this
  rw [this]
  have hx' : d'[k] = x := by rw [← hx]; simp
  rw [hx']
  rfl
end Go.Proofs.Ytedjmpifkgonhaa
