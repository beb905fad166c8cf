/- Wide integers in memory; signed, inRange, Sign. -/
import Derived.Test.YtmpdoikdadjneaaDoorCD
import Derived.Lib.SliceRun
import Derived.Test.YtmpdoikdadjneaaDoorCE
namespace Go.Proofs.YtmpdoikdadjneaaDoor
open Go.RowKit Hb Vm Ds

def intV (z : Int) (u : Value) : Value := .agg #[.bool (decide (z < 0)), u]
/-- a value is the wide integer z -/
def Wi (W : World) (B : Nat) (v : Value) (z : Int) : Prop := ∃ u, v = intV z u ∧ Wl W B u z.natAbs
theorem Wi.later {W W' : World} {B B' : Nat} {v : Value} {z : Int} (h : Wi W B v z) (hb : Below B W W') (hB : B ≤ B') : Wi W' B' v z :=
  let ⟨u, e, hu⟩ := h; ⟨u, e, hu.later hb hB⟩

section
variable {P : Program} {fn : Func}
theorem res_row {p : Tmp} {ty t : TypeId} {g : Nat} {vs : List Value} {d : TypeDesc} {tmps : Array Value} {w : World} (h : fn.results = #[.cell p ty]) (hp : tmps.getD p undef = .pointer (some ⟨g, 0, none⟩)) (hg : Row w g t vs)
    (hu : P.underlying ty = some d) (hd : (match d with | .struct _ | .array _ _ => true | _ => false) = true) (hi : (P.info? ty).map (·.size) = some vs.length) : (results fn tmps).run P w = .ok (.agg vs.toArray) w :=
  results_cell_row h tmps w g t vs.toArray (0, 0) d hp hg hu hd (by simpa using hi)
theorem res_row_tmp {p u : Tmp} {ty t : TypeId} {g : Nat} {vs : List Value} {d : TypeDesc} {tmps : Array Value} {w : World} (h : fn.results = #[.cell p ty, .tmp u]) (hp : tmps.getD p undef = .pointer (some ⟨g, 0, none⟩)) (hg : Row w g t vs)
    (hu : P.underlying ty = some d) (hd : (match d with | .struct _ | .array _ _ => true | _ => false) = true) (hi : (P.info? ty).map (·.size) = some vs.length) : (results fn tmps).run P w = .ok (.tuple #[.agg vs.toArray, tmps.getD u undef]) w := by
  have hp' : tmps[p]?.getD undef = .pointer (some ⟨g, 0, none⟩) := by simpa using hp
  have hg' : w.heap[g]? = some (.cells vs.toArray t (0, 0)) := hg
  simp [results, h, hp', asAddr, run_loadVar_row w g t ty vs.toArray (0, 0) d hg' hu hd (by simpa using hi), Result.andThen]
theorem res_row2 {p p' : Tmp} {ty t : TypeId} {g g' : Nat} {vs vs' : List Value} {d : TypeDesc} {tmps : Array Value} {w : World} (h : fn.results = #[.cell p ty, .cell p' ty]) (hp : tmps.getD p undef = .pointer (some ⟨g, 0, none⟩)) (hp' : tmps.getD p' undef = .pointer (some ⟨g', 0, none⟩)) (hg : Row w g t vs) (hg' : Row w g' t vs')
    (hu : P.underlying ty = some d) (hd : (match d with | .struct _ | .array _ _ => true | _ => false) = true) (hi : (P.info? ty).map (·.size) = some vs.length) (hi' : (P.info? ty).map (·.size) = some vs'.length) : (results fn tmps).run P w = .ok (.tuple #[.agg vs.toArray, .agg vs'.toArray]) w := by
  have h1 : tmps[p]?.getD undef = .pointer (some ⟨g, 0, none⟩) := by simpa using hp
  have h2 : tmps[p']?.getD undef = .pointer (some ⟨g', 0, none⟩) := by simpa using hp'
  have k1 : w.heap[g]? = some (.cells vs.toArray t (0, 0)) := hg
  have k2 : w.heap[g']? = some (.cells vs'.toArray t (0, 0)) := hg'
  simp [results, h, h1, h2, asAddr, run_loadVar_row w g t ty vs.toArray (0, 0) d k1 hu hd (by simpa using hi), run_loadVar_row w g' t ty vs'.toArray (0, 0) d k2 hu hd (by simpa using hi'), Sem.run_bind, Result.andThen]
theorem res_row2_tmp {p p' u : Tmp} {ty t : TypeId} {g g' : Nat} {vs vs' : List Value} {d : TypeDesc} {tmps : Array Value} {w : World} (h : fn.results = #[.cell p ty, .cell p' ty, .tmp u]) (hp : tmps.getD p undef = .pointer (some ⟨g, 0, none⟩)) (hp' : tmps.getD p' undef = .pointer (some ⟨g', 0, none⟩)) (hg : Row w g t vs) (hg' : Row w g' t vs')
    (hu : P.underlying ty = some d) (hd : (match d with | .struct _ | .array _ _ => true | _ => false) = true) (hi : (P.info? ty).map (·.size) = some vs.length) (hi' : (P.info? ty).map (·.size) = some vs'.length) : (results fn tmps).run P w = .ok (.tuple #[.agg vs.toArray, .agg vs'.toArray, tmps.getD u undef]) w := by
  have h1 : tmps[p]?.getD undef = .pointer (some ⟨g, 0, none⟩) := by simpa using hp
  have h2 : tmps[p']?.getD undef = .pointer (some ⟨g', 0, none⟩) := by simpa using hp'
  have k1 : w.heap[g]? = some (.cells vs.toArray t (0, 0)) := hg
  have k2 : w.heap[g']? = some (.cells vs'.toArray t (0, 0)) := hg'
  simp [results, h, h1, h2, asAddr, run_loadVar_row w g t ty vs.toArray (0, 0) d k1 hu hd (by simpa using hi), run_loadVar_row w g' t ty vs'.toArray (0, 0) d k2 hu hd (by simpa using hi'), Sem.run_bind, Result.andThen]
end
theorem sizeW : (Tryd.prog.info? 33).map (·.size) = some 2 := by kernel_rfl
theorem Row.new (w : World) (t : TypeId) (vs : List Value) : Row (w.alloc (.cells vs.toArray t)) w.heap.size t vs := World.alloc_heap_new w _

theorem Row.new2 (w : World) (o : Obj) (t : TypeId) (x y : Value) : Row ((w.alloc o).alloc (.cells #[x, y] t)) (w.heap.size + 1) t [x, y] := by
  have h := Row.new (w.alloc o) t [x, y]
  rw [World.size_alloc] at h
  exact h

set_option maxHeartbeats 1000000 in
theorem signed_any (neg : Bool) (A : Option Addr) (n c : Nat) (w : World) :
    Calls Tryd.prog 52 #[.bool neg, .slice A n c] w fun e W' => e = .returned (.agg #[.bool (neg && decide (0 < n)), .slice A n c]) ∧ Below w.heap.size w W' := by
  cases neg with
  | true =>
    go_enter Tryd.func52, Tryd.ntmps52
    go_wp2
    exact bodyPost_ret (res_row rfl rfl (Row.new w _ [_, _]) Tryd.underlying33 rfl sizeW) rfl ⟨by rw [Bool.true_and], (Below.refl _ w).alloc (Nat.le_refl _) _⟩
  | false =>
    go_enter Tryd.func52, Tryd.ntmps52
    go_wp2
    exact bodyPost_ret (res_row rfl rfl (Row.new w _ [_, _]) Tryd.underlying33 rfl sizeW) rfl ⟨rfl, (Below.refl _ w).alloc (Nat.le_refl _) _⟩
/-- signed, by the number: the words of m under a sign -/
theorem signed_w (neg : Bool) (m : Nat) (v : Value) (z : Int) (hz : z = if neg = true then -(m : Int) else (m : Int)) (w : World) (hv : Wl w w.heap.size v m) :
    Calls Tryd.prog 52 #[.bool neg, v] w fun e W' => (∃ u, e = .returned u ∧ Wi W' W'.heap.size u z) ∧ Below w.heap.size w W' := by
  have hv' := hv
  obtain ⟨A, c, rfl, h1, h2, h3⟩ := hv
  refine (signed_any neg A _ c w).mono ?_
  rintro e W' ⟨rfl, hB⟩
  refine ⟨⟨_, rfl, .slice A (ws m).length c, ?_, ?_⟩, hB⟩
  · unfold intV
    congr 2
    have h0 : (ws m).length = 0 ↔ m = 0 := digs_nil (by decide)
    have e : (neg && decide (0 < (ws m).length)) = decide (z < 0) := by
      cases neg with
      | true =>
        rw [Bool.true_and, hz, if_pos rfl]
        by_cases hm : m = 0
        · rw [decide_eq_false (by have := h0.2 hm; omega), decide_eq_false (by omega)]
        · rw [decide_eq_true (by have : ¬ (ws m).length = 0 := fun e => hm (h0.1 e); omega), decide_eq_true (by omega)]
      | false => rw [Bool.false_and, hz, if_neg (by simp), decide_eq_false (by omega)]
    rw [e]
  · have hn : z.natAbs = m := by rw [hz]; split <;> omega
    rw [hn]
    exact hv'.later hB hB.size
def errI (v : Value) (e : Int) : Ending := .returned (.tuple #[v, .int .i64 e])
/-- an integer in range: of at most 512 words -/
def InR (z : Int) : Prop := (ws z.natAbs).length ≤ 512
instance (z : Int) : Decidable (InR z) := inferInstanceAs (Decidable (_ ≤ _))
theorem inR_pow (b k n : Nat) (hb : 1 < b) : n < b ^ k ↔ (digs b n).length ≤ k :=
  ⟨fun h => digs_len_le hb h, fun h => Nat.lt_of_lt_of_le (digs_lt hb n) (Nat.pow_le_pow_right (by omega) h)⟩
theorem inR_zero : InR 0 := Nat.zero_le 512
set_option maxHeartbeats 1000000 in
theorem inRange_any (z : Int) (v : Value) (w : World) (hv : Wi w w.heap.size v z) (hl : (ws z.natAbs).length ≤ 1000000) :
    Calls Tryd.prog 51 #[v] w fun e W' => (∃ u, e = errI u (if InR z then 0 else 4) ∧ Wi W' W'.heap.size u (if InR z then z else 0)) ∧ Below w.heap.size w W' := by
  obtain ⟨u, rfl, hu⟩ := hv
  have hu' := hu
  obtain ⟨A, c, rfl, h1, h2, h3⟩ := hu
  unfold intV
  obtain ⟨s, hs⟩ : ∃ s, s = decide (z < 0) := ⟨_, rfl⟩
  rw [← hs]
  have HS := Lib.hid hs
  obtain ⟨n, hn⟩ : ∃ n, n = (ws z.natAbs).length := ⟨_, rfl⟩
  rw [← hn] at hl hu' ⊢
  have HN := Lib.hid hn
  clear hs h1 h2 h3 hn
  by_cases hi : InR z
  · have hle : n ≤ 512 := by rw [HN.out]; exact hi
    simp only [if_pos hi]
    clear hi
    go_enter Tryd.func51, Tryd.ntmps51
    go_wp2
    exact bodyPost_ret (res_row_tmp rfl rfl (Row.new2 w _ _ _ _) Tryd.underlying33 rfl sizeW) rfl ⟨⟨_, rfl, _, (by rw [HS.out]; rfl), hu'.later (((Below.refl _ w).alloc (Nat.le_refl _) _).alloc (by simp) _) (by simp; omega)⟩, ((Below.refl _ w).alloc (Nat.le_refl _) _).alloc (by simp) _⟩
  · have hle : 512 < n := by rw [HN.out]; exact Nat.lt_of_not_le hi
    simp only [if_neg hi]
    clear hi
    go_enter Tryd.func51, Tryd.ntmps51
    go_wp2
    exact bodyPost_ret (res_row_tmp rfl rfl (Row.new2 w _ _ _ _) Tryd.underlying33 rfl sizeW) rfl ⟨⟨_, rfl, _, rfl, Wl.nil _ _⟩, ((Below.refl _ w).alloc (Nat.le_refl _) _).alloc (by simp) _⟩
/-- a wide integer, or an error where it is not in range -/
def ErrW (z : Int) (w : World) (e : Ending) (W' : World) : Prop := (∃ u, e = errI u (if InR z then 0 else 4) ∧ Wi W' W'.heap.size u (if InR z then z else 0)) ∧ Below w.heap.size w W'
theorem not_struct {W : World} {g : Nat} {t : TypeId} {p : Bool} {q : Option Addr} {r s : Nat} (h : Row W g t [.bool p, .slice q r s]) (a : Addr) (k : IntKind) (v : Int) (hc : W.cell? a = some (.int k v)) : a.block ≠ g := by
  intro e
  have h' : W.heap[g]? = some (.cells #[.bool p, .slice q r s] t (0, 0)) := h
  unfold World.cell? at hc
  rw [e, h'] at hc
  obtain ⟨b, o, f⟩ := a
  match o, hc with
  | 0, hc => simp at hc
  | 1, hc => simp at hc
  | o + 2, hc => simp at hc
theorem Rd.but_struct {W W' : World} {B g n : Nat} {A : Option Addr} {t : TypeId} {p : Bool} {q : Option Addr} {r s : Nat} {k : IntKind} {xs : List Int} (hr : Rd W B A n (xs.map (Value.int k))) (h : Row W g t [.bool p, .slice q r s]) (hb : But B g W W') : Rd W' B A n (xs.map (Value.int k)) := by
  refine ⟨hr.1, fun hn => ?_⟩
  obtain ⟨a, e, hl, hc⟩ := hr.2 hn
  refine ⟨a, e, hl, fun j u hu => ?_⟩
  have h1 := hc j u hu
  rw [← h1]
  have hu' : ∃ v, u = .int k v := by
    rw [List.getElem?_map] at hu
    cases hx : xs[j]? with
    | none => rw [hx] at hu; cases hu
    | some x => rw [hx] at hu; exact ⟨x, (Option.some.inj hu).symm⟩
  obtain ⟨v, rfl⟩ := hu'
  have hne := not_struct h (a.add j) k v h1
  exact World.cell?_of_block (hb.block (by rw [add_block]; exact hl) hne)
theorem uw_map (xs : List Nat) : xs.map uw = (xs.map (fun n : Nat => (n : Int))).map (Value.int .u32) := by rw [List.map_map]; rfl
theorem Wl.but_struct {W W' : World} {B g n : Nat} {v : Value} {t : TypeId} {p : Bool} {q : Option Addr} {r s : Nat} (hr : Wl W B v n) (h : Row W g t [.bool p, .slice q r s]) (hb : But B g W W') : Wl W' B v n := by
  obtain ⟨A, c, e, h1, h2, h3⟩ := hr
  refine ⟨A, c, e, ?_, h2, h3⟩
  rw [uw_map] at h1 ⊢
  exact Rd.but_struct h1 h hb
theorem Wl.grow {W : World} {B B' n : Nat} {v : Value} (h : Wl W B v n) (hB : B ≤ B') : Wl W B' v n := h.later (Below.refl _ _) hB
end Go.Proofs.YtmpdoikdadjneaaDoor

/- Sums, differences and products of words, by number; Mul. -/
namespace Go.Proofs.YtmpdoikdadjneaaDoor
open Go.RowKit Go.Shelf Hb Vm Ds Vr

theorem sum_w (v u : Value) (x y : Nat) (w : World) (hv : Wl w w.heap.size v x) (hu : Wl w w.heap.size u y) (hx : (ws x).length ≤ 200000) (hy : (ws y).length ≤ 200000) :
    Calls Tryd.prog 58 #[v, u] w fun e W' => (∃ r, e = .returned r ∧ Wl W' W'.heap.size r (x + y)) ∧ Below w.heap.size w W' := by
  obtain ⟨A, c, rfl, h1, h2, h3⟩ := hv
  obtain ⟨C, d, rfl, k1, k2, k3⟩ := hu
  have h := sumL_any A C _ c _ d (ws x) (ws y) hx hy (ws_dig x) (ws_dig y) w h1 k1
  rwa [ws_val, ws_val] at h
theorem dif_w (v u : Value) (x y : Nat) (w : World) (hv : Wl w w.heap.size v x) (hu : Wl w w.heap.size u y) (hle : y ≤ x) (hx : (ws x).length ≤ 200000) :
    Calls Tryd.prog 60 #[v, u] w fun e W' => (∃ r, e = .returned r ∧ Wl W' W'.heap.size r (x - y)) ∧ Below w.heap.size w W' := by
  obtain ⟨A, c, rfl, h1, h2, h3⟩ := hv
  obtain ⟨C, d, rfl, k1, k2, k3⟩ := hu
  have hl : (ws y).length ≤ (ws x).length := by
    rcases Nat.lt_or_ge (ws x).length (ws y).length with h | h
    · have := cmp_len h; omega
    · exact h
  have e1 := ws_val x
  have e2 := ws_val y
  have h := difL_any A C _ c _ d (ws x) (ws y) hx hl (ws_dig x) (ws_dig y) (by unfold wval at e1 e2; rw [e1, e2]; exact hle) w h1 k1
  rwa [ws_val, ws_val] at h
theorem prod_w (v u : Value) (x y : Nat) (w : World) (hv : Wl w w.heap.size v x) (hu : Wl w w.heap.size u y) (hx : (ws x).length ≤ 200000) (hy : (ws y).length ≤ 200000) :
    Calls Tryd.prog 64 #[v, u] w fun e W' => (∃ r, e = .returned r ∧ Wl W' W'.heap.size r (x * y)) ∧ Below w.heap.size w W' := by
  obtain ⟨A, c, rfl, h1, h2, h3⟩ := hv
  obtain ⟨C, d, rfl, k1, k2, k3⟩ := hu
  have h := prodL_any A C _ c _ d (ws x) (ws y) hx hy (ws_dig x) (ws_dig y) w h1 k1
  rwa [ws_val, ws_val] at h
theorem cmp_w (v u : Value) (x y : Nat) (w : World) (hv : Wl w w.heap.size v x) (hu : Wl w w.heap.size u y) (hx : (ws x).length ≤ 200000) (hy : (ws y).length ≤ 200000) :
    Calls Tryd.prog 59 #[v, u] w fun e W' => e = .returned (.int .i64 (cmpI (x : Int) (y : Int))) ∧ Below w.heap.size w W' := by
  obtain ⟨A, c, rfl, h1, h2, h3⟩ := hv
  obtain ⟨C, d, rfl, k1, k2, k3⟩ := hu
  exact cmpW_any A C _ c _ d x y rfl rfl (by omega) (by omega) w h1 k1
theorem short_w (v : Value) (x y : Nat) (Y : Int) (hY : Y = (y : Int)) (w : World) (hv : Wl w w.heap.size v x) (hx : (ws x).length ≤ 200000) (hy0 : 0 < y) (hy : y < 4294967296) :
    Calls Tryd.prog 54 #[v, .int .u32 Y] w fun e W' => (∃ (q : Value) (r : Nat), e = .returned (.tuple #[q, .int .u32 (r : Int)]) ∧ Wl W' W'.heap.size q (x / y) ∧ r = x % y) ∧ Below w.heap.size w W' := by
  subst hY
  obtain ⟨A, c, rfl, h1, h2, h3⟩ := hv
  have h := shortL_any A _ c y (ws x) (by omega) (ws_dig x) hy0 hy w h1
  rwa [ws_val] at h
theorem prod_len {x y : Nat} (hx : (ws x).length ≤ 200000) (hy : (ws y).length ≤ 200000) : (ws (x * y)).length ≤ 400000 := Nat.le_trans (digs_mul_len (by decide) hx hy) (by decide)
theorem bool_ne (a b : Bool) : (a != b) = (a ^^ b) := by cases a <;> cases b <;> rfl
theorem natAbs_sign (z : Int) : z = if decide (z < 0) = true then -(z.natAbs : Int) else (z.natAbs : Int) := by
  by_cases h : z < 0
  · rw [decide_eq_true h, if_pos rfl]; omega
  · rw [decide_eq_false h, if_neg (by simp)]; omega

theorem Row.set2 {W : World} {g : Nat} {t : TypeId} {a b : Value} (h : Row W g t [a, b]) (x y : Value) : Row ((W.setCell ⟨g, 0, none⟩ x).setCell ⟨g, 1, none⟩ y) g t [x, y] := (h.set 0 x).set 1 y

set_option maxRecDepth 100000 in
set_option maxHeartbeats 4000000 in
theorem mul_any (x y : Int) (vx vy : Value) (w : World) (hvx : Wi w w.heap.size vx x) (hvy : Wi w w.heap.size vy y) (hlx : (ws x.natAbs).length ≤ 200000) (hly : (ws y.natAbs).length ≤ 200000) :
    Calls Tryd.prog 31 #[vx, vy] w (ErrW (x * y) w) := by
  obtain ⟨ux, rfl, hx⟩ := hvx
  obtain ⟨uy, rfl, hy⟩ := hvy
  have hx' := hx
  have hy' := hy
  obtain ⟨A, c, rfl, -, -, -⟩ := hx'
  obtain ⟨C, d, rfl, -, -, -⟩ := hy'
  obtain ⟨n, hn⟩ : ∃ n, n = (ws x.natAbs).length := ⟨_, rfl⟩
  obtain ⟨m, hm⟩ : ∃ m, m = (ws y.natAbs).length := ⟨_, rfl⟩
  have hz : x * y = if (decide (x < 0) != decide (y < 0)) = true then -((x.natAbs * y.natAbs : Nat) : Int) else ((x.natAbs * y.natAbs : Nat) : Int) := by
    have e1 := natAbs_sign x
    have e2 := natAbs_sign y
    generalize x.natAbs = a at *
    generalize y.natAbs = b at *
    cases h1 : decide (x < 0) <;> cases h2 : decide (y < 0) <;> rw [h1] at e1 <;> rw [h2] at e2 <;> simp at e1 e2 <;> simp [e1, e2, Int.natCast_mul, Int.neg_mul, Int.mul_neg, Int.neg_neg]
  have hla : (ws (x * y).natAbs).length ≤ 1000000 := by rw [Int.natAbs_mul]; have := prod_len hlx hly; omega
  unfold intV
  obtain ⟨s, hs⟩ : ∃ s, s = decide (x < 0) := ⟨_, rfl⟩
  obtain ⟨t, ht⟩ : ∃ t, t = decide (y < 0) := ⟨_, rfl⟩
  rw [← hs, ← ht] at hz
  rw [← hn] at hx ⊢
  rw [← hm] at hy ⊢
  rw [← hs, ← ht]
  have HZ := Lib.hid hz
  have HLA := Lib.hid hla
  have HLX := Lib.hid hlx
  have HLY := Lib.hid hly
  clear hs ht hn hm hz hla hlx hly
  go_enter Tryd.func31, Tryd.ntmps31
  go_wp2_with fail
  obtain ⟨w3, hw3⟩ : ∃ w3, w3 = ((w.alloc (.cells #[.bool s, .slice A n c] 33)).alloc (.cells #[.bool t, .slice C m d] 33)).alloc (.cells #[.bool false, .slice none 0 0] 33) := ⟨_, rfl⟩
  have b1 : Row w3 w.heap.size 33 [.bool s, .slice A n c] := by rw [hw3]; exact ((Row.new w _ [.bool s, .slice A n c]).alloc _).alloc _
  have b2 : Row w3 (w.heap.size + 1) 33 [.bool t, .slice C m d] := by rw [hw3]; exact (Row.new2 w _ _ _ _).alloc _
  have b3 : Row w3 (w.heap.size + 1 + 1) 33 [.bool false, .slice none 0 0] := by
    have := Row.new2 (w.alloc (.cells #[.bool s, .slice A n c] 33)) (.cells #[.bool t, .slice C m d] 33) 33 (.bool false) (.slice none 0 0)
    rw [World.size_alloc] at this
    rw [hw3]; exact this
  have bw : Below w.heap.size w w3 := by rw [hw3]; exact (((Below.refl _ w).alloc (Nat.le_refl _) _).alloc (by simp) _).alloc (by simp; omega) _
  have z3 : w3.heap.size = w.heap.size + 1 + 1 + 1 := by rw [hw3]; simp
  rw [← hw3]
  clear hw3
  obtain ⟨S, hSd⟩ : ∃ S : World → Prop, S = fun w' => (w'.cell? ⟨w.heap.size, 0, none⟩ = some (.bool s) ∧ w'.cell? ⟨w.heap.size, 1, none⟩ = some (.slice A n c)) ∧ w'.cell? ⟨w.heap.size + 1, 0, none⟩ = some (.bool t) ∧ w'.cell? ⟨w.heap.size + 1, 1, none⟩ = some (.slice C m d) := ⟨_, rfl⟩
  have hSr : ∀ V, Row V w.heap.size 33 [.bool s, .slice A n c] → Row V (w.heap.size + 1) 33 [.bool t, .slice C m d] → S V := fun V h1 h2 => by rw [hSd]; exact ⟨⟨h1.cell 0 _ rfl, h1.cell 1 _ rfl⟩, h2.cell 0 _ rfl, h2.cell 1 _ rfl⟩
  have HSR := Lib.hid hSr
  refine wp_region_held (S := S) (by kernel_rfl) ?_
  change wpAnyH _ _ _ _ _ _ _ _ w3.drew
  have hS : S w3.drew := hSr _ b1 b2
  have c1 : Row w3.drew w.heap.size 33 [.bool s, .slice A n c] := b1
  have c2 : Row w3.drew (w.heap.size + 1) 33 [.bool t, .slice C m d] := b2
  have c3 : Row w3.drew (w.heap.size + 1 + 1) 33 [.bool false, .slice none 0 0] := b3
  have bd : Below w.heap.size w w3.drew := bw.drew
  have zd : w3.drew.heap.size = w.heap.size + 1 + 1 + 1 := z3
  obtain ⟨V0, hV0⟩ : ∃ V0, V0 = w3.drew := ⟨_, rfl⟩
  rw [← hV0] at hS c1 c2 c3 bd zd ⊢
  have Z := Lib.hid zd
  subst hSd
  clear hV0 hSr b1 b2 b3 bw z3 zd
  refine wpAnyH_take (i := 0) (v := .pointer (some ⟨w.heap.size, 0, none⟩)) rfl (by kernel_rfl) (by kernel_rfl) (by kernel_rfl) (fun _ _ _ h => h) (Or.inl ⟨by rfl, by intro w hSw; go_simp⟩) hS ?_
  refine wpAnyH_take (i := 1) (v := .bool s) rfl (by kernel_rfl) (by kernel_rfl) (by kernel_rfl) (fun _ _ _ h => h) (Or.inl ⟨by rfl, by intro w hSw; obtain ⟨⟨q1, q2⟩, q3, q4⟩ := hSw; go_simp⟩) hS ?_
  refine wpAnyH_take (i := 2) (v := .pointer (some ⟨w.heap.size + 1, 0, none⟩)) rfl (by kernel_rfl) (by kernel_rfl) (by kernel_rfl) (fun _ _ _ h => h) (Or.inl ⟨by rfl, by intro w hSw; go_simp⟩) hS ?_
  refine wpAnyH_take (i := 3) (v := .bool t) rfl (by kernel_rfl) (by kernel_rfl) (by kernel_rfl) (fun _ _ _ h => h) (Or.inl ⟨by rfl, by intro w hSw; obtain ⟨⟨q1, q2⟩, q3, q4⟩ := hSw; go_simp⟩) hS ?_
  refine wpAnyH_take (i := 4) (v := .bool (s != t)) rfl (by kernel_rfl) (by kernel_rfl) (by kernel_rfl) (fun _ _ _ h => h) (Or.inl ⟨by rfl, by intro w hSw; go_simp; cases s <;> cases t <;> rfl⟩) hS ?_
  refine wpAnyH_take (i := 5) (v := .pointer (some ⟨w.heap.size, 1, none⟩)) rfl (by kernel_rfl) (by kernel_rfl) (by kernel_rfl) (fun _ _ _ h => h) (Or.inl ⟨by rfl, by intro w hSw; go_simp⟩) hS ?_
  refine wpAnyH_take (i := 6) (v := .slice A n c) rfl (by kernel_rfl) (by kernel_rfl) (by kernel_rfl) (fun _ _ _ h => h) (Or.inl ⟨by rfl, by intro w hSw; obtain ⟨⟨q1, q2⟩, q3, q4⟩ := hSw; go_simp⟩) hS ?_
  refine wpAnyH_take (i := 7) (v := .pointer (some ⟨w.heap.size + 1, 1, none⟩)) rfl (by kernel_rfl) (by kernel_rfl) (by kernel_rfl) (fun _ _ _ h => h) (Or.inl ⟨by rfl, by intro w hSw; go_simp⟩) hS ?_
  refine wpAnyH_take (i := 8) (v := .slice C m d) rfl (by kernel_rfl) (by kernel_rfl) (by kernel_rfl) (fun _ _ _ h => h) (Or.inl ⟨by rfl, by intro w hSw; obtain ⟨⟨q1, q2⟩, q3, q4⟩ := hSw; go_simp⟩) hS ?_
  simp only [Act.put, List.setIfInBounds_toArray]
  refine one_ready (i := 9) (by kernel_rfl) rfl (fun K hK => ?_)
  go_simp
  refine (prod_w _ _ x.natAbs y.natAbs V0 (hx.later bd (by rw [Z.out]; omega)) (hy.later bd (by rw [Z.out]; omega)) HLX.out HLY.out).mono ?_
  rintro e W1 ⟨⟨r, rfl, hr⟩, hB1⟩
  dsimp only
  have d1 := c1.below hB1 c1.lt
  have d2 := c2.below hB1 c2.lt
  have d3 := c3.below hB1 c3.lt
  have bd1 := bd.trans (hB1.mono (by rw [Z.out]; omega))
  have s1 := hB1.size
  have hS1 := HSR.out W1 d1 d2
  refine hK.out _ _ hS1 (fun _ => ?_)
  clear hK K hS c1 c2 c3 bd hB1
  refine one_ready (i := 10) (by kernel_rfl) rfl (fun K hK => ?_)
  go_simp
  refine (signed_w (s != t) _ r (x * y) HZ.out W1 hr).mono ?_
  rintro e W2 ⟨⟨u, rfl, hu⟩, hB2⟩
  dsimp only
  have e1 := d1.below hB2 d1.lt
  have e2 := d2.below hB2 d2.lt
  have e3 := d3.below hB2 d3.lt
  have bd2 := bd1.trans (hB2.mono (by have := d1.lt; omega))
  have hS2 := HSR.out W2 e1 e2
  have s2 := hB2.size
  refine hK.out _ _ hS2 (fun _ => ?_)
  clear hK K hS1 d1 d2 d3 bd1 hr hB2
  refine one_ready (i := 11) (by kernel_rfl) rfl (fun K hK => ?_)
  go_simp
  refine (inRange_any (x * y) u W2 hu HLA.out).mono ?_
  rintro e W3 ⟨⟨v, rfl, hv⟩, hB3⟩
  unfold errI
  dsimp only
  have g1 := e1.below hB3 e1.lt
  have g2 := e2.below hB3 e2.lt
  have g3 := e3.below hB3 e3.lt
  have bd3 := bd2.trans (hB3.mono (by have := e1.lt; omega))
  have hS3 := HSR.out W3 g1 g2
  have s3 := hB3.size
  refine hK.out _ _ hS3 (fun _ => ?_)
  clear hK K hS2 e1 e2 e3 bd2 hu hB3
  obtain ⟨ev, hev⟩ : ∃ ev : Int, ev = if InR (x * y) then 0 else 4 := ⟨_, rfl⟩
  obtain ⟨zz, hzz⟩ : ∃ zz : Int, zz = if InR (x * y) then x * y else 0 := ⟨_, rfl⟩
  rw [← hev]
  rw [← hzz] at hv
  have HEV := Lib.hid hev
  have HZZ := Lib.hid hzz
  clear hev hzz
  obtain ⟨u', rfl, hu'⟩ := hv
  obtain ⟨A', c', rfl, k1, k2, k3⟩ := hu'
  unfold intV
  refine wpAnyH_take (i := 12) (v := .agg #[.bool (decide (zz < 0)), .slice A' (ws zz.natAbs).length c']) rfl (by kernel_rfl) (by kernel_rfl) (by kernel_rfl) (fun _ _ _ h => h) (Or.inl ⟨by rfl, by intro w hSw; go_simp⟩) hS3 ?_
  refine wpAnyH_take (i := 13) (v := .int .i64 ev) rfl (by kernel_rfl) (by kernel_rfl) (by kernel_rfl) (fun _ _ _ h => h) (Or.inl ⟨by rfl, by intro w hSw; go_simp⟩) hS3 ?_
  simp only [Act.put, List.setIfInBounds_toArray]
  have cl0 := g3.cell 0 _ rfl
  have cl1 := g3.cell 1 _ rfl
  have fz0 := g3.frozen 0
  have fz1 := g3.frozen 1
  refine one_ready (i := 14) (by kernel_rfl) rfl (fun K hK => ?_)
  go_simp
  obtain ⟨W4, hW4⟩ : ∃ W4, W4 = ((W3.setCell ⟨w.heap.size + 1 + 1, 0, none⟩ (.bool (decide (zz < 0)))).setCell ⟨w.heap.size + 1 + 1, 1, none⟩ (.slice A' (ws zz.natAbs).length c')) := ⟨_, rfl⟩
  have i1 : Row W4 w.heap.size 33 [.bool s, .slice A n c] := by rw [hW4]; exact (g1.other _ _ (by omega)).other _ _ (by omega)
  have i2 : Row W4 (w.heap.size + 1) 33 [.bool t, .slice C m d] := by rw [hW4]; exact (g2.other _ _ (by omega)).other _ _ (by omega)
  have i3 : Row W4 (w.heap.size + 1 + 1) 33 [.bool (decide (zz < 0)), .slice A' (ws zz.natAbs).length c'] := by rw [hW4]; exact g3.set2 _ _
  have b4 : But W3.heap.size (w.heap.size + 1 + 1) W3 W4 := by rw [hW4]; exact (But.setCell _ _ _ _ _).trans (But.setCell _ _ _ _ _)
  rw [← hW4]
  clear hW4 cl0 cl1 fz0 fz1 g1 g2
  refine hK.out _ _ (HSR.out W4 i1 i2) (fun hS4 => ?_)
  clear hK K
  refine wpAnyH_take (i := 15) (v := .int .i64 ev) rfl (by kernel_rfl) (by kernel_rfl) (by kernel_rfl) (fun _ _ _ h => h) (Or.inl ⟨by rfl, by intro w hSw; go_simp⟩) hS4 ?_
  refine wpAnyH_done (by kernel_rfl) ?_ _
  go_wp2_with fail
  refine bodyPost_ret (res_row_tmp rfl rfl i3 Tryd.underlying33 rfl sizeW) rfl ⟨⟨.agg #[.bool (decide (zz < 0)), .slice A' (ws zz.natAbs).length c'], ?_, ?_⟩, bd3.trans (b4.low.mono (by omega))⟩
  · unfold errI; rw [← HEV.out]; rfl
  · rw [← HZZ.out]
    exact ⟨_, rfl, (Wl.but_struct (B := W3.heap.size) ⟨A', c', rfl, k1, k2, k3⟩ g3 b4).grow b4.size⟩
end Go.Proofs.YtmpdoikdadjneaaDoor

/- What Add, Sub and Neg answer. -/
namespace Go.Proofs.YtmpdoikdadjneaaDoor
open Go.RowKit Go.Shelf Hb Vm Ds Vr

theorem box3w (w : World) (a b c d : Value) : ∃ w3, w3 = ((w.alloc (.cells #[a, b] 33)).alloc (.cells #[c, d] 33)).alloc (.cells #[.bool false, .slice none 0 0] 33) ∧
    Row w3 w.heap.size 33 [a, b] ∧ Row w3 (w.heap.size + 1) 33 [c, d] ∧ Row w3 (w.heap.size + 1 + 1) 33 [.bool false, .slice none 0 0] ∧ Below w.heap.size w w3 := by
  refine ⟨_, rfl, ((Row.new w _ [a, b]).alloc _).alloc _, (Row.new2 w _ _ _ _).alloc _, ?_, (((Below.refl _ w).alloc (Nat.le_refl _) _).alloc (by simp) _).alloc (by simp; omega) _⟩
  have := Row.new2 (w.alloc (.cells #[a, b] 33)) (.cells #[c, d] 33) 33 (.bool false) (.slice none 0 0)
  rw [World.size_alloc] at this
  exact this
theorem sum_len {x y : Nat} (hx : (ws x).length ≤ 200000) (hy : (ws y).length ≤ 200000) : (ws (x + y)).length ≤ 400000 := Nat.le_trans (digs_add_len (by decide) hx hy) (by decide)
theorem len_mono {x y : Nat} (h : x ≤ y) : (ws x).length ≤ (ws y).length := by
  rcases Nat.lt_or_ge (ws y).length (ws x).length with h1 | h1
  · have := cmp_len h1; omega
  · exact h1

set_option maxRecDepth 100000 in
set_option maxHeartbeats 8000000 in
theorem add_any (x y : Int) (vx vy : Value) (w : World) (hvx : Wi w w.heap.size vx x) (hvy : Wi w w.heap.size vy y) (hlx : (ws x.natAbs).length ≤ 200000) (hly : (ws y.natAbs).length ≤ 200000) (hin : (decide (x < 0)) ≠ (decide (y < 0)) → InR x ∧ InR y) :
    Calls Tryd.prog 27 #[vx, vy] w (ErrW (x + y) w) := by
  obtain ⟨ux, rfl, hx⟩ := hvx
  obtain ⟨uy, rfl, hy⟩ := hvy
  have hx' := hx
  have hy' := hy
  obtain ⟨A, c, rfl, -, -, -⟩ := hx'
  obtain ⟨C, d, rfl, -, -, -⟩ := hy'
  obtain ⟨n, hn⟩ : ∃ n, n = (ws x.natAbs).length := ⟨_, rfl⟩
  obtain ⟨m, hm⟩ : ∃ m, m = (ws y.natAbs).length := ⟨_, rfl⟩
  have hnx := natAbs_sign x
  have hny := natAbs_sign y
  unfold intV
  obtain ⟨s, hs⟩ : ∃ s, s = decide (x < 0) := ⟨_, rfl⟩
  obtain ⟨t, ht⟩ : ∃ t, t = decide (y < 0) := ⟨_, rfl⟩
  rw [← hn] at hx ⊢
  rw [← hm] at hy ⊢
  rw [← hs] at hnx hin ⊢
  rw [← ht] at hny hin ⊢
  have HLX := Lib.hid hlx
  have HLY := Lib.hid hly
  have HNX := Lib.hid hnx
  have HNY := Lib.hid hny
  have HIN := Lib.hid hin
  clear hs ht hn hm hlx hly hin hnx hny
  obtain ⟨w3, hw3, b1, b2, b3, bw⟩ := box3w w (.bool s) (.slice A n c) (.bool t) (.slice C m d)
  have k10 := b1.cell 0 _ rfl
  have k11 := b1.cell 1 _ rfl
  have k20 := b2.cell 0 _ rfl
  have k21 := b2.cell 1 _ rfl
  have f10 := b1.frozen 0
  have f11 := b1.frozen 1
  have f20 := b2.frozen 0
  have f21 := b2.frozen 1
  by_cases hst : s = t
  · subst hst
    have hz : x + y = if s = true then -((x.natAbs + y.natAbs : Nat) : Int) else ((x.natAbs + y.natAbs : Nat) : Int) := by
      have e1 := HNX.out
      have e2 := HNY.out
      generalize x.natAbs = a at *
      generalize y.natAbs = b at *
      cases s <;> simp at e1 e2 <;> simp [e1, e2] <;> omega
    have hla : (ws (x + y).natAbs).length ≤ 1000000 := by
      have e : (x + y).natAbs = x.natAbs + y.natAbs := by rw [hz]; split <;> omega
      rw [e]
      have := sum_len HLX.out HLY.out
      omega
    have HZ := Lib.hid hz
    have HLA := Lib.hid hla
    clear hz hla
    go_enter Tryd.func27, Tryd.ntmps27
    go_wp2_with fail
    rw [← hw3]
    clear hw3
    clear k10 k11 k20 k21 f10 f11 f20 f21
    obtain ⟨S, hSd⟩ : ∃ S : World → Prop, S = fun w' => w'.cell? ⟨w.heap.size, 0, none⟩ = some (.bool s) ∧ w'.cell? ⟨w.heap.size, 1, none⟩ = some (.slice A n c) ∧ w'.cell? ⟨w.heap.size + 1, 0, none⟩ = some (.bool s) ∧ w'.cell? ⟨w.heap.size + 1, 1, none⟩ = some (.slice C m d) := ⟨_, rfl⟩
    have hSr : ∀ V, Row V (w.heap.size) 33 [.bool s, .slice A n c] → Row V (w.heap.size + 1) 33 [.bool s, .slice C m d] → S V := fun V h0 h1 => by rw [hSd]; exact ⟨h0.cell 0 _ rfl, h0.cell 1 _ rfl, h1.cell 0 _ rfl, h1.cell 1 _ rfl⟩
    have HSR := Lib.hid hSr
    refine wp_region_held (S := S) (by kernel_rfl) ?_
    change wpAnyH _ _ _ _ _ _ _ _ w3.drew
    have hS0 : S w3.drew := hSr _ b1 b2
    have c0_0 : Row w3.drew (w.heap.size) 33 [.bool s, .slice A n c] := b1
    have c1_0 : Row w3.drew (w.heap.size + 1) 33 [.bool s, .slice C m d] := b2
    have cr_0 : Row w3.drew (w.heap.size + 1 + 1) 33 [.bool false, .slice none 0 0] := b3
    have bd_0 : Below w.heap.size w w3.drew := (bw).drew
    obtain ⟨V0, hV0⟩ : ∃ V0, V0 = w3.drew := ⟨_, rfl⟩
    rw [← hV0] at hS0 c0_0 c1_0 cr_0 bd_0 ⊢
    subst hSd
    clear hV0 hSr b1 b2 b3
    refine wpAnyH_take (i := 0) (v := .pointer (some ⟨w.heap.size, 0, none⟩)) rfl (by kernel_rfl) (by kernel_rfl) (by kernel_rfl) (fun _ _ _ h => h) (Or.inl ⟨by rfl, by intro w hSw; go_simp⟩) hS0 ?_
    refine wpAnyH_take (i := 1) (v := .bool s) rfl (by kernel_rfl) (by kernel_rfl) (by kernel_rfl) (fun _ _ _ h => h) (Or.inl ⟨by rfl, by intro w hSw; obtain ⟨q0, q1, q2, q3⟩ := hSw; go_simp⟩) hS0 ?_
    refine wpAnyH_take (i := 2) (v := .pointer (some ⟨w.heap.size, 1, none⟩)) rfl (by kernel_rfl) (by kernel_rfl) (by kernel_rfl) (fun _ _ _ h => h) (Or.inl ⟨by rfl, by intro w hSw; go_simp⟩) hS0 ?_
    refine wpAnyH_take (i := 3) (v := .slice A n c) rfl (by kernel_rfl) (by kernel_rfl) (by kernel_rfl) (fun _ _ _ h => h) (Or.inl ⟨by rfl, by intro w hSw; obtain ⟨q0, q1, q2, q3⟩ := hSw; go_simp⟩) hS0 ?_
    refine wpAnyH_take (i := 4) (v := .pointer (some ⟨w.heap.size + 1, 1, none⟩)) rfl (by kernel_rfl) (by kernel_rfl) (by kernel_rfl) (fun _ _ _ h => h) (Or.inl ⟨by rfl, by intro w hSw; go_simp⟩) hS0 ?_
    refine wpAnyH_take (i := 5) (v := .slice C m d) rfl (by kernel_rfl) (by kernel_rfl) (by kernel_rfl) (fun _ _ _ h => h) (Or.inl ⟨by rfl, by intro w hSw; obtain ⟨q0, q1, q2, q3⟩ := hSw; go_simp⟩) hS0 ?_
    simp only [Act.put, List.setIfInBounds_toArray]
    refine one_ready (i := 6) (by kernel_rfl) rfl (fun K hK => ?_)
    go_simp
    refine (sum_w _ _ x.natAbs y.natAbs V0 (hx.later bd_0 bd_0.size) (hy.later bd_0 bd_0.size) HLX.out HLY.out).mono ?_
    rintro e U1 ⟨⟨r, rfl, hr⟩, hB1⟩
    dsimp only
    have c0_1 := c0_0.below hB1 c0_0.lt
    have c1_1 := c1_0.below hB1 c1_0.lt
    have cr_1 := cr_0.below hB1 cr_0.lt
    have bd_1 := bd_0.trans (hB1.mono bd_0.size)
    have hS1 := HSR.out U1 c0_1 c1_1
    refine hK.out _ _ hS1 (fun _ => ?_)
    clear hK K hS0 cr_0 bd_0 c0_0 c1_0 
    refine one_ready (i := 7) (by kernel_rfl) rfl (fun K hK => ?_)
    go_simp
    refine (signed_w s _ r (x + y) HZ.out U1 hr).mono ?_
    rintro e U2 ⟨⟨u, rfl, hu⟩, hB2⟩
    dsimp only
    have c0_2 := c0_1.below hB2 c0_1.lt
    have c1_2 := c1_1.below hB2 c1_1.lt
    have cr_2 := cr_1.below hB2 cr_1.lt
    have bd_2 := bd_1.trans (hB2.mono bd_1.size)
    have hS2 := HSR.out U2 c0_2 c1_2
    refine hK.out _ _ hS2 (fun _ => ?_)
    clear hK K hS1 cr_1 bd_1 c0_1 c1_1 hr hB1
    refine one_ready (i := 8) (by kernel_rfl) rfl (fun K hK => ?_)
    go_simp
    refine (inRange_any (x + y) u U2 hu HLA.out).mono ?_
    rintro e U3 ⟨⟨v, rfl, hv⟩, hB3⟩
    unfold errI
    obtain ⟨ev, hev⟩ : ∃ ev : Int, ev = if InR (x + y) then 0 else 4 := ⟨_, rfl⟩
    obtain ⟨zz, hzz⟩ : ∃ zz : Int, zz = if InR (x + y) then x + y else 0 := ⟨_, rfl⟩
    rw [← hev]
    rw [← hzz] at hv
    have HEV := Lib.hid hev
    have HZZ := Lib.hid hzz
    clear hev hzz
    obtain ⟨u', rfl, hu'⟩ := hv
    have hu2 := hu'
    obtain ⟨A', c', rfl, -, -, -⟩ := hu2
    unfold intV
    dsimp only
    have c0_3 := c0_2.below hB3 c0_2.lt
    have c1_3 := c1_2.below hB3 c1_2.lt
    have cr_3 := cr_2.below hB3 cr_2.lt
    have bd_3 := bd_2.trans (hB3.mono bd_2.size)
    have hS3 := HSR.out U3 c0_3 c1_3
    refine hK.out _ _ hS3 (fun _ => ?_)
    clear hK K hS2 cr_2 bd_2 c0_2 c1_2 hu hB2
    refine wpAnyH_take (i := 9) (v := .agg #[.bool (decide (zz < 0)), .slice A' (ws zz.natAbs).length c']) rfl (by kernel_rfl) (by kernel_rfl) (by kernel_rfl) (fun _ _ _ h => h) (Or.inl ⟨by rfl, by intro w hSw; go_simp⟩) hS3 ?_
    refine wpAnyH_take (i := 10) (v := .int .i64 ev) rfl (by kernel_rfl) (by kernel_rfl) (by kernel_rfl) (fun _ _ _ h => h) (Or.inl ⟨by rfl, by intro w hSw; go_simp⟩) hS3 ?_
    simp only [Act.put, List.setIfInBounds_toArray]
    have cl0 := cr_3.cell 0 _ rfl
    have cl1 := cr_3.cell 1 _ rfl
    have fz0 := cr_3.frozen 0
    have fz1 := cr_3.frozen 1
    refine one_ready (i := 11) (by kernel_rfl) rfl (fun K hK => ?_)
    go_simp
    obtain ⟨WZ, hWZ⟩ : ∃ WZ, WZ = ((U3.setCell ⟨w.heap.size + 1 + 1, 0, none⟩ (.bool (decide (zz < 0)))).setCell ⟨w.heap.size + 1 + 1, 1, none⟩ (.slice A' (ws zz.natAbs).length c')) := ⟨_, rfl⟩
    have c0_4 : Row WZ (w.heap.size) 33 [.bool s, .slice A n c] := by rw [hWZ]; exact (c0_3.other _ _ (by omega)).other _ _ (by omega)
    have c1_4 : Row WZ (w.heap.size + 1) 33 [.bool s, .slice C m d] := by rw [hWZ]; exact (c1_3.other _ _ (by omega)).other _ _ (by omega)
    have cr_4 : Row WZ (w.heap.size + 1 + 1) 33 [.bool (decide (zz < 0)), .slice A' (ws zz.natAbs).length c'] := by rw [hWZ]; exact cr_3.set2 _ _
    have bt : But U3.heap.size (w.heap.size + 1 + 1) U3 WZ := by rw [hWZ]; exact (But.setCell _ _ _ _ _).trans (But.setCell _ _ _ _ _)
    rw [← hWZ]
    clear hWZ cl0 cl1 fz0 fz1
    refine hK.out _ _ (HSR.out WZ c0_4 c1_4) (fun hS4 => ?_)
    clear hK K
    refine wpAnyH_take (i := 12) (v := .int .i64 ev) rfl (by kernel_rfl) (by kernel_rfl) (by kernel_rfl) (fun _ _ _ h => h) (Or.inl ⟨by rfl, by intro w hSw; go_simp⟩) hS4 ?_
    refine wpAnyH_done (by kernel_rfl) ?_ _
    go_wp2_with fail
    refine bodyPost_ret (res_row_tmp rfl rfl cr_4 Tryd.underlying33 rfl sizeW) rfl ⟨⟨.agg #[.bool (decide (zz < 0)), .slice A' (ws zz.natAbs).length c'], ?_, ?_⟩, bd_3.trans (bt.low.mono (by omega))⟩
    · unfold errI; rw [← HEV.out]; rfl
    · rw [← HZZ.out]
      exact ⟨_, rfl, (Wl.but_struct (B := U3.heap.size) hu' cr_3 bt).grow bt.size⟩
  · have hinr := HIN.out hst
    have hbeq : (s == t) = false := beq_eq_false_iff_ne.2 hst
    have c0 := cmp_w (.slice A n c) (.slice C m d) x.natAbs y.natAbs w3 (hx.later bw bw.size) (hy.later bw bw.size) HLX.out HLY.out
    have HST := Lib.hid hst
    by_cases hlt : x.natAbs < y.natAbs
    · rw [cmpI_lt (by omega)] at c0
      have hz : x + y = if t = true then -((y.natAbs - x.natAbs : Nat) : Int) else ((y.natAbs - x.natAbs : Nat) : Int) := by
        have e1 := HNX.out
        have e2 := HNY.out
        have e3 := HST.out
        generalize x.natAbs = a at *
        generalize y.natAbs = b at *
        cases s <;> cases t <;> simp at e1 e2 e3 <;> simp [e1, e2] <;> omega
      have hab : (x + y).natAbs = y.natAbs - x.natAbs := by rw [hz]; split <;> omega
      have hI : InR (x + y) := by show (ws (x + y).natAbs).length ≤ 512; rw [hab]; exact Nat.le_trans (len_mono (Nat.sub_le _ _)) hinr.2
      have HZ := Lib.hid hz
      have HI := Lib.hid hI
      clear hz hab hI hinr hst
      go_enter Tryd.func27, Tryd.ntmps27
      go_wp2_with fail
      rw [← hw3]
      clear hw3
      refine c0.mono ?_
      rintro e W1 ⟨rfl, hB⟩
      have d1 := b1.below hB b1.lt
      have d2 := b2.below hB b2.lt
      have d3 := b3.below hB b3.lt
      have bw1 := bw.trans (hB.mono bw.size)
      clear c0 k10 k11 k20 k21 f10 f11 f20 f21 b1 b2 b3 bw
      have k10 := d1.cell 0 _ rfl
      have k11 := d1.cell 1 _ rfl
      have k20 := d2.cell 0 _ rfl
      have k21 := d2.cell 1 _ rfl
      have f10 := d1.frozen 0
      have f11 := d1.frozen 1
      have f20 := d2.frozen 0
      have f21 := d2.frozen 1
      go_wp2_with fail
      obtain ⟨W5, hW5⟩ : ∃ W5, W5 = (((W1.setCell ⟨w.heap.size, 0, none⟩ (.bool t)).setCell ⟨w.heap.size, 1, none⟩ (.slice C m d)).setCell ⟨w.heap.size + 1, 0, none⟩ (.bool s)).setCell ⟨w.heap.size + 1, 1, none⟩ (.slice A n c) := ⟨_, rfl⟩
      have e1 : Row W5 w.heap.size 33 [.bool t, .slice C m d] := by rw [hW5]; exact ((d1.set2 _ _).other _ _ (by omega)).other _ _ (by omega)
      have e2 : Row W5 (w.heap.size + 1) 33 [.bool s, .slice A n c] := by rw [hW5]; exact ((d2.other _ _ (by omega)).other _ _ (by omega)).set2 _ _
      have e3 : Row W5 (w.heap.size + 1 + 1) 33 [.bool false, .slice none 0 0] := by rw [hW5]; exact (((d3.other _ _ (by omega)).other _ _ (by omega)).other _ _ (by omega)).other _ _ (by omega)
      have e4 : Below w.heap.size w W5 := by rw [hW5]; exact (((bw1.setCell (p := ⟨w.heap.size, 0, none⟩) (Nat.le_refl _) _).setCell (p := ⟨w.heap.size, 1, none⟩) (Nat.le_refl _) _).setCell (p := ⟨w.heap.size + 1, 0, none⟩) (by show w.heap.size ≤ w.heap.size + 1; omega) _).setCell (p := ⟨w.heap.size + 1, 1, none⟩) (by show w.heap.size ≤ w.heap.size + 1; omega) _
      rw [← hW5]
      clear hW5 d1 d2 d3 bw1 k10 k11 k20 k21 f10 f11 f20 f21 hB
      obtain ⟨S, hSd⟩ : ∃ S : World → Prop, S = fun w' => w'.cell? ⟨w.heap.size, 0, none⟩ = some (.bool t) ∧ w'.cell? ⟨w.heap.size, 1, none⟩ = some (.slice C m d) ∧ w'.cell? ⟨w.heap.size + 1, 0, none⟩ = some (.bool s) ∧ w'.cell? ⟨w.heap.size + 1, 1, none⟩ = some (.slice A n c) := ⟨_, rfl⟩
      have hSr : ∀ V, Row V (w.heap.size) 33 [.bool t, .slice C m d] → Row V (w.heap.size + 1) 33 [.bool s, .slice A n c] → S V := fun V h0 h1 => by rw [hSd]; exact ⟨h0.cell 0 _ rfl, h0.cell 1 _ rfl, h1.cell 0 _ rfl, h1.cell 1 _ rfl⟩
      have HSR := Lib.hid hSr
      refine wp_region_held (S := S) (by kernel_rfl) ?_
      change wpAnyH _ _ _ _ _ _ _ _ W5.drew
      have hS0 : S W5.drew := hSr _ e1 e2
      have c0_0 : Row W5.drew (w.heap.size) 33 [.bool t, .slice C m d] := e1
      have c1_0 : Row W5.drew (w.heap.size + 1) 33 [.bool s, .slice A n c] := e2
      have cr_0 : Row W5.drew (w.heap.size + 1 + 1) 33 [.bool false, .slice none 0 0] := e3
      have bd_0 : Below w.heap.size w W5.drew := (e4).drew
      obtain ⟨V0, hV0⟩ : ∃ V0, V0 = W5.drew := ⟨_, rfl⟩
      rw [← hV0] at hS0 c0_0 c1_0 cr_0 bd_0 ⊢
      subst hSd
      clear hV0 hSr e1 e2 e3
      refine wpAnyH_take (i := 0) (v := .pointer (some ⟨w.heap.size, 0, none⟩)) rfl (by kernel_rfl) (by kernel_rfl) (by kernel_rfl) (fun _ _ _ h => h) (Or.inl ⟨by rfl, by intro w hSw; go_simp⟩) hS0 ?_
      refine wpAnyH_take (i := 1) (v := .bool t) rfl (by kernel_rfl) (by kernel_rfl) (by kernel_rfl) (fun _ _ _ h => h) (Or.inl ⟨by rfl, by intro w hSw; obtain ⟨q0, q1, q2, q3⟩ := hSw; go_simp⟩) hS0 ?_
      refine wpAnyH_take (i := 2) (v := .pointer (some ⟨w.heap.size, 1, none⟩)) rfl (by kernel_rfl) (by kernel_rfl) (by kernel_rfl) (fun _ _ _ h => h) (Or.inl ⟨by rfl, by intro w hSw; go_simp⟩) hS0 ?_
      refine wpAnyH_take (i := 3) (v := .slice C m d) rfl (by kernel_rfl) (by kernel_rfl) (by kernel_rfl) (fun _ _ _ h => h) (Or.inl ⟨by rfl, by intro w hSw; obtain ⟨q0, q1, q2, q3⟩ := hSw; go_simp⟩) hS0 ?_
      refine wpAnyH_take (i := 4) (v := .pointer (some ⟨w.heap.size + 1, 1, none⟩)) rfl (by kernel_rfl) (by kernel_rfl) (by kernel_rfl) (fun _ _ _ h => h) (Or.inl ⟨by rfl, by intro w hSw; go_simp⟩) hS0 ?_
      refine wpAnyH_take (i := 5) (v := .slice A n c) rfl (by kernel_rfl) (by kernel_rfl) (by kernel_rfl) (fun _ _ _ h => h) (Or.inl ⟨by rfl, by intro w hSw; obtain ⟨q0, q1, q2, q3⟩ := hSw; go_simp⟩) hS0 ?_
      simp only [Act.put, List.setIfInBounds_toArray]
      refine one_ready (i := 6) (by kernel_rfl) rfl (fun K hK => ?_)
      go_simp
      refine (dif_w _ _ y.natAbs x.natAbs V0 (hy.later bd_0 bd_0.size) (hx.later bd_0 bd_0.size) (by omega) HLY.out).mono ?_
      rintro e U1 ⟨⟨r, rfl, hr⟩, hB1⟩
      dsimp only
      have c0_1 := c0_0.below hB1 c0_0.lt
      have c1_1 := c1_0.below hB1 c1_0.lt
      have cr_1 := cr_0.below hB1 cr_0.lt
      have bd_1 := bd_0.trans (hB1.mono bd_0.size)
      have hS1 := HSR.out U1 c0_1 c1_1
      refine hK.out _ _ hS1 (fun _ => ?_)
      clear hK K hS0 cr_0 bd_0 c0_0 c1_0 
      refine one_ready (i := 7) (by kernel_rfl) rfl (fun K hK => ?_)
      go_simp
      refine (signed_w t _ r (x + y) HZ.out U1 hr).mono ?_
      rintro e U2 ⟨⟨u, rfl, hu⟩, hB2⟩
      obtain ⟨u', rfl, hu'⟩ := hu
      have hu2 := hu'
      obtain ⟨A', c', rfl, -, -, -⟩ := hu2
      unfold intV
      dsimp only
      have c0_2 := c0_1.below hB2 c0_1.lt
      have c1_2 := c1_1.below hB2 c1_1.lt
      have cr_2 := cr_1.below hB2 cr_1.lt
      have bd_2 := bd_1.trans (hB2.mono bd_1.size)
      have hS2 := HSR.out U2 c0_2 c1_2
      refine hK.out _ _ hS2 (fun _ => ?_)
      clear hK K hS1 cr_1 bd_1 c0_1 c1_1 hr hB1
      have cl0 := cr_2.cell 0 _ rfl
      have cl1 := cr_2.cell 1 _ rfl
      have fz0 := cr_2.frozen 0
      have fz1 := cr_2.frozen 1
      refine one_ready (i := 8) (by kernel_rfl) rfl (fun K hK => ?_)
      go_simp
      obtain ⟨WZ, hWZ⟩ : ∃ WZ, WZ = ((U2.setCell ⟨w.heap.size + 1 + 1, 0, none⟩ (.bool (decide (x + y < 0)))).setCell ⟨w.heap.size + 1 + 1, 1, none⟩ (.slice A' (ws (x + y).natAbs).length c')) := ⟨_, rfl⟩
      have c0_3 : Row WZ (w.heap.size) 33 [.bool t, .slice C m d] := by rw [hWZ]; exact (c0_2.other _ _ (by omega)).other _ _ (by omega)
      have c1_3 : Row WZ (w.heap.size + 1) 33 [.bool s, .slice A n c] := by rw [hWZ]; exact (c1_2.other _ _ (by omega)).other _ _ (by omega)
      have cr_3 : Row WZ (w.heap.size + 1 + 1) 33 [.bool (decide (x + y < 0)), .slice A' (ws (x + y).natAbs).length c'] := by rw [hWZ]; exact cr_2.set2 _ _
      have bt : But U2.heap.size (w.heap.size + 1 + 1) U2 WZ := by rw [hWZ]; exact (But.setCell _ _ _ _ _).trans (But.setCell _ _ _ _ _)
      rw [← hWZ]
      clear hWZ cl0 cl1 fz0 fz1
      refine hK.out _ _ (HSR.out WZ c0_3 c1_3) (fun hS3 => ?_)
      clear hK K
      refine wpAnyH_take (i := 9) (v := .int .i64 0) rfl (by kernel_rfl) (by kernel_rfl) (by kernel_rfl) (fun _ _ _ h => h) (Or.inl ⟨by rfl, by intro w hSw; go_simp⟩) hS3 ?_
      refine wpAnyH_done (by kernel_rfl) ?_ _
      go_wp2_with fail
      refine bodyPost_ret (res_row_tmp rfl rfl cr_3 Tryd.underlying33 rfl sizeW) rfl ⟨⟨.agg #[.bool (decide (x + y < 0)), .slice A' (ws (x + y).natAbs).length c'], ?_, ?_⟩, bd_2.trans (bt.low.mono (by omega))⟩
      · unfold errI; rw [if_pos HI.out]; rfl
      · rw [if_pos HI.out]
        exact ⟨_, rfl, (Wl.but_struct (B := U2.heap.size) hu' cr_2 bt).grow bt.size⟩
    · have hcg : ¬ cmpI (x.natAbs : Int) (y.natAbs : Int) < 0 := fun h => hlt (by have := cmpI_neg.1 h; omega)
      obtain ⟨cv, hcv⟩ : ∃ cv, cv = cmpI (x.natAbs : Int) (y.natAbs : Int) := ⟨_, rfl⟩
      rw [← hcv] at c0 hcg
      have hz : x + y = if s = true then -((x.natAbs - y.natAbs : Nat) : Int) else ((x.natAbs - y.natAbs : Nat) : Int) := by
        have e1 := HNX.out
        have e2 := HNY.out
        have e3 := HST.out
        generalize x.natAbs = a at *
        generalize y.natAbs = b at *
        cases s <;> cases t <;> simp at e1 e2 e3 <;> simp [e1, e2] <;> omega
      have hab : (x + y).natAbs = x.natAbs - y.natAbs := by rw [hz]; split <;> omega
      have hI : InR (x + y) := by show (ws (x + y).natAbs).length ≤ 512; rw [hab]; exact Nat.le_trans (len_mono (Nat.sub_le _ _)) hinr.1
      have HZ := Lib.hid hz
      have HI := Lib.hid hI
      clear hz hab hI hinr hst hcv
      go_enter Tryd.func27, Tryd.ntmps27
      go_wp2_with fail
      rw [← hw3]
      clear hw3
      refine c0.mono ?_
      rintro e W1 ⟨rfl, hB⟩
      have e1 := b1.below hB b1.lt
      have e2 := b2.below hB b2.lt
      have e3 := b3.below hB b3.lt
      have e4 := bw.trans (hB.mono bw.size)
      clear c0 k10 k11 k20 k21 f10 f11 f20 f21 b1 b2 b3 bw hB
      go_wp2_with fail
      obtain ⟨S, hSd⟩ : ∃ S : World → Prop, S = fun w' => w'.cell? ⟨w.heap.size, 0, none⟩ = some (.bool s) ∧ w'.cell? ⟨w.heap.size, 1, none⟩ = some (.slice A n c) ∧ w'.cell? ⟨w.heap.size + 1, 0, none⟩ = some (.bool t) ∧ w'.cell? ⟨w.heap.size + 1, 1, none⟩ = some (.slice C m d) := ⟨_, rfl⟩
      have hSr : ∀ V, Row V (w.heap.size) 33 [.bool s, .slice A n c] → Row V (w.heap.size + 1) 33 [.bool t, .slice C m d] → S V := fun V h0 h1 => by rw [hSd]; exact ⟨h0.cell 0 _ rfl, h0.cell 1 _ rfl, h1.cell 0 _ rfl, h1.cell 1 _ rfl⟩
      have HSR := Lib.hid hSr
      refine wp_region_held (S := S) (by kernel_rfl) ?_
      change wpAnyH _ _ _ _ _ _ _ _ W1.drew
      have hS0 : S W1.drew := hSr _ e1 e2
      have c0_0 : Row W1.drew (w.heap.size) 33 [.bool s, .slice A n c] := e1
      have c1_0 : Row W1.drew (w.heap.size + 1) 33 [.bool t, .slice C m d] := e2
      have cr_0 : Row W1.drew (w.heap.size + 1 + 1) 33 [.bool false, .slice none 0 0] := e3
      have bd_0 : Below w.heap.size w W1.drew := (e4).drew
      obtain ⟨V0, hV0⟩ : ∃ V0, V0 = W1.drew := ⟨_, rfl⟩
      rw [← hV0] at hS0 c0_0 c1_0 cr_0 bd_0 ⊢
      subst hSd
      clear hV0 hSr e1 e2 e3
      refine wpAnyH_take (i := 0) (v := .pointer (some ⟨w.heap.size, 0, none⟩)) rfl (by kernel_rfl) (by kernel_rfl) (by kernel_rfl) (fun _ _ _ h => h) (Or.inl ⟨by rfl, by intro w hSw; go_simp⟩) hS0 ?_
      refine wpAnyH_take (i := 1) (v := .bool s) rfl (by kernel_rfl) (by kernel_rfl) (by kernel_rfl) (fun _ _ _ h => h) (Or.inl ⟨by rfl, by intro w hSw; obtain ⟨q0, q1, q2, q3⟩ := hSw; go_simp⟩) hS0 ?_
      refine wpAnyH_take (i := 2) (v := .pointer (some ⟨w.heap.size, 1, none⟩)) rfl (by kernel_rfl) (by kernel_rfl) (by kernel_rfl) (fun _ _ _ h => h) (Or.inl ⟨by rfl, by intro w hSw; go_simp⟩) hS0 ?_
      refine wpAnyH_take (i := 3) (v := .slice A n c) rfl (by kernel_rfl) (by kernel_rfl) (by kernel_rfl) (fun _ _ _ h => h) (Or.inl ⟨by rfl, by intro w hSw; obtain ⟨q0, q1, q2, q3⟩ := hSw; go_simp⟩) hS0 ?_
      refine wpAnyH_take (i := 4) (v := .pointer (some ⟨w.heap.size + 1, 1, none⟩)) rfl (by kernel_rfl) (by kernel_rfl) (by kernel_rfl) (fun _ _ _ h => h) (Or.inl ⟨by rfl, by intro w hSw; go_simp⟩) hS0 ?_
      refine wpAnyH_take (i := 5) (v := .slice C m d) rfl (by kernel_rfl) (by kernel_rfl) (by kernel_rfl) (fun _ _ _ h => h) (Or.inl ⟨by rfl, by intro w hSw; obtain ⟨q0, q1, q2, q3⟩ := hSw; go_simp⟩) hS0 ?_
      simp only [Act.put, List.setIfInBounds_toArray]
      refine one_ready (i := 6) (by kernel_rfl) rfl (fun K hK => ?_)
      go_simp
      refine (dif_w _ _ x.natAbs y.natAbs V0 (hx.later bd_0 bd_0.size) (hy.later bd_0 bd_0.size) (by omega) HLX.out).mono ?_
      rintro e U1 ⟨⟨r, rfl, hr⟩, hB1⟩
      dsimp only
      have c0_1 := c0_0.below hB1 c0_0.lt
      have c1_1 := c1_0.below hB1 c1_0.lt
      have cr_1 := cr_0.below hB1 cr_0.lt
      have bd_1 := bd_0.trans (hB1.mono bd_0.size)
      have hS1 := HSR.out U1 c0_1 c1_1
      refine hK.out _ _ hS1 (fun _ => ?_)
      clear hK K hS0 cr_0 bd_0 c0_0 c1_0 
      refine one_ready (i := 7) (by kernel_rfl) rfl (fun K hK => ?_)
      go_simp
      refine (signed_w s _ r (x + y) HZ.out U1 hr).mono ?_
      rintro e U2 ⟨⟨u, rfl, hu⟩, hB2⟩
      obtain ⟨u', rfl, hu'⟩ := hu
      have hu2 := hu'
      obtain ⟨A', c', rfl, -, -, -⟩ := hu2
      unfold intV
      dsimp only
      have c0_2 := c0_1.below hB2 c0_1.lt
      have c1_2 := c1_1.below hB2 c1_1.lt
      have cr_2 := cr_1.below hB2 cr_1.lt
      have bd_2 := bd_1.trans (hB2.mono bd_1.size)
      have hS2 := HSR.out U2 c0_2 c1_2
      refine hK.out _ _ hS2 (fun _ => ?_)
      clear hK K hS1 cr_1 bd_1 c0_1 c1_1 hr hB1
      have cl0 := cr_2.cell 0 _ rfl
      have cl1 := cr_2.cell 1 _ rfl
      have fz0 := cr_2.frozen 0
      have fz1 := cr_2.frozen 1
      refine one_ready (i := 8) (by kernel_rfl) rfl (fun K hK => ?_)
      go_simp
      obtain ⟨WZ, hWZ⟩ : ∃ WZ, WZ = ((U2.setCell ⟨w.heap.size + 1 + 1, 0, none⟩ (.bool (decide (x + y < 0)))).setCell ⟨w.heap.size + 1 + 1, 1, none⟩ (.slice A' (ws (x + y).natAbs).length c')) := ⟨_, rfl⟩
      have c0_3 : Row WZ (w.heap.size) 33 [.bool s, .slice A n c] := by rw [hWZ]; exact (c0_2.other _ _ (by omega)).other _ _ (by omega)
      have c1_3 : Row WZ (w.heap.size + 1) 33 [.bool t, .slice C m d] := by rw [hWZ]; exact (c1_2.other _ _ (by omega)).other _ _ (by omega)
      have cr_3 : Row WZ (w.heap.size + 1 + 1) 33 [.bool (decide (x + y < 0)), .slice A' (ws (x + y).natAbs).length c'] := by rw [hWZ]; exact cr_2.set2 _ _
      have bt : But U2.heap.size (w.heap.size + 1 + 1) U2 WZ := by rw [hWZ]; exact (But.setCell _ _ _ _ _).trans (But.setCell _ _ _ _ _)
      rw [← hWZ]
      clear hWZ cl0 cl1 fz0 fz1
      refine hK.out _ _ (HSR.out WZ c0_3 c1_3) (fun hS3 => ?_)
      clear hK K
      refine wpAnyH_take (i := 9) (v := .int .i64 0) rfl (by kernel_rfl) (by kernel_rfl) (by kernel_rfl) (fun _ _ _ h => h) (Or.inl ⟨by rfl, by intro w hSw; go_simp⟩) hS3 ?_
      refine wpAnyH_done (by kernel_rfl) ?_ _
      go_wp2_with fail
      refine bodyPost_ret (res_row_tmp rfl rfl cr_3 Tryd.underlying33 rfl sizeW) rfl ⟨⟨.agg #[.bool (decide (x + y < 0)), .slice A' (ws (x + y).natAbs).length c'], ?_, ?_⟩, bd_2.trans (bt.low.mono (by omega))⟩
      · unfold errI; rw [if_pos HI.out]; rfl
      · rw [if_pos HI.out]
        exact ⟨_, rfl, (Wl.but_struct (B := U2.heap.size) hu' cr_2 bt).grow bt.size⟩
end Go.Proofs.YtmpdoikdadjneaaDoor

/- What slices.Clone, Neg, Sub, Sign and Compare answer. -/
namespace Go.Proofs.YtmpdoikdadjneaaDoor
open Go.RowKit Go.Shelf Hb Vm Ds Vr

set_option maxRecDepth 100000 in
set_option maxHeartbeats 1000000 in
theorem clone_w (v : Value) (x : Nat) (hx : (ws x).length ≤ 1000000) (w : World) (hv : Wl w w.heap.size v x) :
    Calls Tryd.prog 69 #[v] w fun e W' => (∃ u, e = .returned u ∧ Wl W' W'.heap.size u x) ∧ Below w.heap.size w W' := by
  obtain ⟨A, c, rfl, hr, hmc, hcm⟩ := hv
  obtain ⟨i0, hi, hz0, hz1, hz2⟩ := info_parts infoU32
  have q : ∀ (w : World) (a : Option Addr) (n c n' c' : Nat), (binOp .eql 31 (.slice a n c) (.slice none n' c')).run Tryd.prog w = .ok (.bool a.isNone) w := fun w a n c n' c' => Lib.run_eql_slice_nil w _ _ a n c n' c' Tryd.underlying31
  obtain ⟨m, hm⟩ : ∃ m, m = (ws x).length := ⟨_, rfl⟩
  rw [← hm] at hr hmc hx ⊢
  have HM := Lib.hid hm
  clear hm
  cases A with
  | none =>
    have h0 : m = 0 := by
      by_cases h : 0 < m
      · obtain ⟨a, ha, _⟩ := hr.2 h; cases ha
      · omega
    have hx0 : x = 0 := (digs_nil (b := 4294967296) (by decide)).1 (by have := HM.out; unfold ws at this; omega)
    subst hx0
    clear HM hr
    go_enter Tryd.func69, Tryd.ntmps69
    go_wp2
    go_ret
    exact ⟨⟨_, rfl, Wl.nil _ _⟩, Below.refl _ _⟩
  | some a =>
    go_enter Tryd.func69, Tryd.ntmps69
    go_wp2_with (at_builtin; refine wpList_append_rd _ rfl _ _ 31 rfl w.heap.size 81 i0 (.int .u32 0) 4 Tryd.underlying31 hi hz0 hz1 hz2 rfl _ 0 [] rfl (World.ownsRow_made w #[] 0 (Nat.le_refl _) (Nat.zero_le _) rfl) w.heap.size (some a) m c ((ws x).map uw) rfl (hr.below ((Below.refl _ w).alloc (Nat.le_refl _) _)) (map_one _ uw_one _) (by unfold maxLen; omega) (by omega) (by simp) ?_; intro A' c' W1 hown hg _)
    go_ret
    have hown' := own_cast hown (Nat.zero_add m) (List.nil_append _)
    rw [Nat.zero_add] at hown'
    have hle := own_le hown'
    have hcap := own_cap hown'
    refine ⟨⟨_, rfl, A', c', by rw [← HM.out]; rfl, ?_, by rw [← HM.out]; exact hle, hcap⟩, ((Below.refl _ w).alloc (Nat.le_refl _) _).grown hg (by simp) (by intro k hk; cases hk; exact Nat.le_refl _)⟩
    rw [← HM.out]
    exact Rd.of_own hown'

theorem box2w (w : World) (a b : Value) : ∃ w3, w3 = (w.alloc (.cells #[a, b] 33)).alloc (.cells #[.bool false, .slice none 0 0] 33) ∧
    Row w3 w.heap.size 33 [a, b] ∧ Row w3 (w.heap.size + 1) 33 [.bool false, .slice none 0 0] ∧ Below w.heap.size w w3 :=
  ⟨_, rfl, (Row.new w _ [a, b]).alloc _, Row.new2 w _ _ _ _, ((Below.refl _ w).alloc (Nat.le_refl _) _).alloc (by simp) _⟩

set_option maxRecDepth 100000 in
set_option maxHeartbeats 4000000 in
theorem neg_any (x : Int) (vx : Value) (w : World) (hvx : Wi w w.heap.size vx x) (hlx : (ws x.natAbs).length ≤ 1000000) :
    Calls Tryd.prog 40 #[vx] w fun e W' => (∃ u, e = .returned u ∧ Wi W' W'.heap.size u (-x)) ∧ Below w.heap.size w W' := by
  obtain ⟨ux, rfl, hx⟩ := hvx
  have hx' := hx
  obtain ⟨A, c, rfl, -, -, -⟩ := hx'
  obtain ⟨n, hn⟩ : ∃ n, n = (ws x.natAbs).length := ⟨_, rfl⟩
  have hnx := natAbs_sign x
  unfold intV
  obtain ⟨s, hs⟩ : ∃ s, s = decide (x < 0) := ⟨_, rfl⟩
  rw [← hn] at hx ⊢
  rw [← hs] at hnx ⊢
  have hz : -x = if (!s) = true then -(x.natAbs : Int) else (x.natAbs : Int) := by
    generalize x.natAbs = a at *
    cases s <;> simp at hnx <;> simp [hnx]
  obtain ⟨nx, hnx2⟩ : ∃ nx, nx = -x := ⟨_, rfl⟩
  rw [← hnx2] at hz ⊢
  have HZ := Lib.hid hz
  have HLX := Lib.hid hlx
  clear hs hn hlx hnx hz hnx2
  obtain ⟨w3, hw3, b1, b3, bw⟩ := box2w w (.bool s) (.slice A n c)
  go_enter Tryd.func40, Tryd.ntmps40
  go_wp2_with fail
  rw [← hw3]
  clear hw3
  obtain ⟨S, hSd⟩ : ∃ S : World → Prop, S = fun w' => w'.cell? ⟨w.heap.size, 0, none⟩ = some (.bool s) ∧ w'.cell? ⟨w.heap.size, 1, none⟩ = some (.slice A n c) := ⟨_, rfl⟩
  have hSr : ∀ V, Row V (w.heap.size) 33 [.bool s, .slice A n c] → S V := fun V h0 => by rw [hSd]; exact ⟨h0.cell 0 _ rfl, h0.cell 1 _ rfl⟩
  have HSR := Lib.hid hSr
  refine wp_region_held (S := S) (by kernel_rfl) ?_
  change wpAnyH _ _ _ _ _ _ _ _ w3.drew
  have hS0 : S w3.drew := hSr _ b1
  have c0_0 : Row w3.drew (w.heap.size) 33 [.bool s, .slice A n c] := b1
  have cr_0 : Row w3.drew (w.heap.size + 1) 33 [.bool false, .slice none 0 0] := b3
  have bd_0 : Below w.heap.size w w3.drew := (bw).drew
  obtain ⟨V0, hV0⟩ : ∃ V0, V0 = w3.drew := ⟨_, rfl⟩
  rw [← hV0] at hS0 c0_0 cr_0 bd_0 ⊢
  subst hSd
  clear hV0 hSr b1 b3
  refine wpAnyH_take (i := 0) (v := .pointer (some ⟨w.heap.size, 0, none⟩)) rfl (by kernel_rfl) (by kernel_rfl) (by kernel_rfl) (fun _ _ _ h => h) (Or.inl ⟨by rfl, by intro w hSw; go_simp⟩) hS0 ?_
  refine wpAnyH_take (i := 1) (v := .bool s) rfl (by kernel_rfl) (by kernel_rfl) (by kernel_rfl) (fun _ _ _ h => h) (Or.inl ⟨by rfl, by intro w hSw; obtain ⟨q0, q1⟩ := hSw; go_simp⟩) hS0 ?_
  refine wpAnyH_take (i := 2) (v := .bool (!s)) rfl (by kernel_rfl) (by kernel_rfl) (by kernel_rfl) (fun _ _ _ h => h) (Or.inl ⟨by rfl, by intro w hSw; go_simp⟩) hS0 ?_
  refine wpAnyH_take (i := 3) (v := .pointer (some ⟨w.heap.size, 1, none⟩)) rfl (by kernel_rfl) (by kernel_rfl) (by kernel_rfl) (fun _ _ _ h => h) (Or.inl ⟨by rfl, by intro w hSw; go_simp⟩) hS0 ?_
  refine wpAnyH_take (i := 4) (v := .slice A n c) rfl (by kernel_rfl) (by kernel_rfl) (by kernel_rfl) (fun _ _ _ h => h) (Or.inl ⟨by rfl, by intro w hSw; obtain ⟨q0, q1⟩ := hSw; go_simp⟩) hS0 ?_
  simp only [Act.put, List.setIfInBounds_toArray]
  refine one_ready (i := 5) (by kernel_rfl) rfl (fun K hK => ?_)
  go_simp
  refine (clone_w _ x.natAbs HLX.out V0 (hx.later bd_0 bd_0.size)).mono ?_
  rintro e U1 ⟨⟨r, rfl, hr⟩, hB1⟩
  dsimp only
  have c0_1 := c0_0.below hB1 c0_0.lt
  have cr_1 := cr_0.below hB1 cr_0.lt
  have bd_1 := bd_0.trans (hB1.mono bd_0.size)
  have hS1 := HSR.out U1 c0_1
  refine hK.out _ _ hS1 (fun _ => ?_)
  clear hK K hS0 cr_0 bd_0 c0_0 
  refine one_ready (i := 6) (by kernel_rfl) rfl (fun K hK => ?_)
  go_simp
  refine (signed_w (!s) _ r nx HZ.out U1 hr).mono ?_
  rintro e U2 ⟨⟨u, rfl, hu⟩, hB2⟩
  obtain ⟨u', rfl, hu'⟩ := hu
  have hu2 := hu'
  obtain ⟨A', c', rfl, -, -, -⟩ := hu2
  unfold intV
  dsimp only
  have c0_2 := c0_1.below hB2 c0_1.lt
  have cr_2 := cr_1.below hB2 cr_1.lt
  have bd_2 := bd_1.trans (hB2.mono bd_1.size)
  have hS2 := HSR.out U2 c0_2
  refine hK.out _ _ hS2 (fun _ => ?_)
  clear hK K hS1 cr_1 bd_1 c0_1 hr hB1
  have cl0 := cr_2.cell 0 _ rfl
  have cl1 := cr_2.cell 1 _ rfl
  have fz0 := cr_2.frozen 0
  have fz1 := cr_2.frozen 1
  refine one_ready (i := 7) (by kernel_rfl) rfl (fun K hK => ?_)
  go_simp
  obtain ⟨WZ, hWZ⟩ : ∃ WZ, WZ = ((U2.setCell ⟨w.heap.size + 1, 0, none⟩ (.bool (decide (nx < 0)))).setCell ⟨w.heap.size + 1, 1, none⟩ (.slice A' (ws nx.natAbs).length c')) := ⟨_, rfl⟩
  have c0_3 : Row WZ (w.heap.size) 33 [.bool s, .slice A n c] := by rw [hWZ]; exact (c0_2.other _ _ (by omega)).other _ _ (by omega)
  have cr_3 : Row WZ (w.heap.size + 1) 33 [.bool (decide (nx < 0)), .slice A' (ws nx.natAbs).length c'] := by rw [hWZ]; exact cr_2.set2 _ _
  have bt : But U2.heap.size (w.heap.size + 1) U2 WZ := by rw [hWZ]; exact (But.setCell _ _ _ _ _).trans (But.setCell _ _ _ _ _)
  rw [← hWZ]
  clear hWZ cl0 cl1 fz0 fz1
  refine hK.out _ _ (HSR.out WZ c0_3) (fun hS3 => ?_)
  clear hK K
  refine wpAnyH_done (by kernel_rfl) ?_ _
  go_wp2_with fail
  exact bodyPost_ret (res_row rfl rfl cr_3 Tryd.underlying33 rfl sizeW) rfl ⟨⟨.agg #[.bool (decide (nx < 0)), .slice A' (ws nx.natAbs).length c'], rfl, _, rfl, (Wl.but_struct (B := U2.heap.size) hu' cr_2 bt).grow bt.size⟩, bd_2.trans (bt.low.mono (by omega))⟩

theorem sign_any (x : Int) (vx : Value) (w : World) (hvx : Wi w w.heap.size vx x) :
    Calls Tryd.prog 39 #[vx] w fun e W' => e = .returned (.int .i64 (cmpI x 0)) ∧ Below w.heap.size w W' := by
  obtain ⟨ux, rfl, hx⟩ := hvx
  obtain ⟨A, c, rfl, -, -, -⟩ := hx
  obtain ⟨n, hn⟩ : ∃ n, n = (ws x.natAbs).length := ⟨_, rfl⟩
  have h0 : (ws x.natAbs).length = 0 ↔ x.natAbs = 0 := digs_nil (by decide)
  unfold intV
  rw [← hn] at h0 ⊢
  by_cases hneg : x < 0
  · rw [decide_eq_true hneg, cmpI_lt hneg]
    clear h0 hn hneg
    go_enter Tryd.func39, Tryd.ntmps39
    go_wp2
    go_ret
    exact ⟨rfl, (Below.refl _ w).alloc (Nat.le_refl _) _⟩
  · rw [decide_eq_false hneg]
    by_cases hp : 0 < n
    · rw [cmpI_gt (show (0 : Int) < x by omega)]
      clear h0 hn hneg
      go_enter Tryd.func39, Tryd.ntmps39
      go_wp2
      go_ret
      exact ⟨rfl, (Below.refl _ w).alloc (Nat.le_refl _) _⟩
    · rw [cmpI_eq (show x = 0 by omega)]
      obtain rfl : n = 0 := by omega
      clear h0 hn hneg hp
      go_enter Tryd.func39, Tryd.ntmps39
      go_wp2
      go_ret
      exact ⟨rfl, (Below.refl _ w).alloc (Nat.le_refl _) _⟩

end Go.Proofs.YtmpdoikdadjneaaDoor

/- What Sub answers. -/
namespace Go.Proofs.YtmpdoikdadjneaaDoor
open Go.RowKit Go.Shelf Hb Vm Ds Vr

set_option maxRecDepth 100000 in
set_option maxHeartbeats 4000000 in
theorem sub_any (x y : Int) (vx vy : Value) (w : World) (hvx : Wi w w.heap.size vx x) (hvy : Wi w w.heap.size vy y) (hlx : InR x) (hly : InR y) :
    Calls Tryd.prog 28 #[vx, vy] w (ErrW (x - y) w) := by
  have hlx' : (ws x.natAbs).length ≤ 512 := hlx
  have hly' : (ws y.natAbs).length ≤ 512 := hly
  have hvx' := hvx
  have hvy' := hvy
  obtain ⟨ux, rfl, hx⟩ := hvx'
  obtain ⟨A, c, rfl, -, -, -⟩ := hx
  obtain ⟨uy, rfl, hy⟩ := hvy'
  obtain ⟨C, d, rfl, -, -, -⟩ := hy
  unfold intV at hvx hvy ⊢
  obtain ⟨n, hn⟩ : ∃ n, n = (ws x.natAbs).length := ⟨_, rfl⟩
  obtain ⟨m, hm⟩ : ∃ m, m = (ws y.natAbs).length := ⟨_, rfl⟩
  obtain ⟨s, hs⟩ : ∃ s, s = decide (x < 0) := ⟨_, rfl⟩
  obtain ⟨t, ht⟩ : ∃ t, t = decide (y < 0) := ⟨_, rfl⟩
  rw [← hn, ← hs] at hvx ⊢
  rw [← hm, ← ht] at hvy ⊢
  have HX := Lib.hid hlx
  have HY := Lib.hid hly
  have HX' := Lib.hid hlx'
  have HY' := Lib.hid hly'
  clear hn hm hs ht hlx hly hlx' hly'
  go_enter Tryd.func28, Tryd.ntmps28
  go_wp2_with fail
  obtain ⟨w3, hw3, b1, b2, b3, bw⟩ := box3w w (.bool s) (.slice A n c) (.bool t) (.slice C m d)
  rw [← hw3]
  clear hw3
  obtain ⟨S, hSd⟩ : ∃ S : World → Prop, S = fun w' => w'.cell? ⟨w.heap.size, 0, none⟩ = some (.bool s) ∧ w'.cell? ⟨w.heap.size, 1, none⟩ = some (.slice A n c) ∧ w'.cell? ⟨w.heap.size + 1, 0, none⟩ = some (.bool t) ∧ w'.cell? ⟨w.heap.size + 1, 1, none⟩ = some (.slice C m d) := ⟨_, rfl⟩
  have hSr : ∀ V, Row V (w.heap.size) 33 [.bool s, .slice A n c] → Row V (w.heap.size + 1) 33 [.bool t, .slice C m d] → S V := fun V h0 h1 => by rw [hSd]; exact ⟨h0.cell 0 _ rfl, h0.cell 1 _ rfl, h1.cell 0 _ rfl, h1.cell 1 _ rfl⟩
  have HSR := Lib.hid hSr
  refine wp_region_held (S := S) (by kernel_rfl) ?_
  change wpAnyH _ _ _ _ _ _ _ _ w3.drew
  have hS0 : S w3.drew := hSr _ b1 b2
  have c0_0 : Row w3.drew (w.heap.size) 33 [.bool s, .slice A n c] := b1
  have c1_0 : Row w3.drew (w.heap.size + 1) 33 [.bool t, .slice C m d] := b2
  have cr_0 : Row w3.drew (w.heap.size + 1 + 1) 33 [.bool false, .slice none 0 0] := b3
  have bd_0 : Below w.heap.size w w3.drew := (bw).drew
  obtain ⟨V0, hV0⟩ : ∃ V0, V0 = w3.drew := ⟨_, rfl⟩
  rw [← hV0] at hS0 c0_0 c1_0 cr_0 bd_0 ⊢
  subst hSd
  clear hV0 hSr b1 b2 b3
  refine wpAnyH_take (i := 0) (v := .agg #[.bool s, .slice A n c]) rfl (by kernel_rfl) (by kernel_rfl) (by kernel_rfl) (fun _ _ _ h => h) (Or.inl ⟨by rfl, by intro w hSw; obtain ⟨q0, q1, q2, q3⟩ := hSw; go_simp⟩) hS0 ?_
  refine wpAnyH_take (i := 1) (v := .agg #[.bool t, .slice C m d]) rfl (by kernel_rfl) (by kernel_rfl) (by kernel_rfl) (fun _ _ _ h => h) (Or.inl ⟨by rfl, by intro w hSw; obtain ⟨q0, q1, q2, q3⟩ := hSw; go_simp⟩) hS0 ?_
  simp only [Act.put, List.setIfInBounds_toArray]
  refine one_ready (i := 2) (by kernel_rfl) rfl (fun K hK => ?_)
  go_simp
  refine (neg_any y _ V0 (hvy.later bd_0 bd_0.size) (by have := HY'.out; omega)).mono ?_
  rintro e U1 ⟨⟨u, rfl, hu⟩, hB1⟩
  obtain ⟨ny, hny⟩ : ∃ ny, ny = -y := ⟨_, rfl⟩
  rw [← hny] at hu
  have hnl : (ws ny.natAbs).length ≤ 512 := by rw [hny, Int.natAbs_neg]; exact HY'.out
  have hxy : x + ny = x - y := by rw [hny, ← Int.sub_eq_add_neg]
  have HNL := Lib.hid hnl
  have HXY := Lib.hid hxy
  clear hny hnl hxy
  have hu' := hu
  obtain ⟨u', rfl, hu1⟩ := hu'
  obtain ⟨A1, c1, rfl, -, -, -⟩ := hu1
  unfold intV at hu ⊢
  dsimp only
  have c0_1 := c0_0.below hB1 c0_0.lt
  have c1_1 := c1_0.below hB1 c1_0.lt
  have cr_1 := cr_0.below hB1 cr_0.lt
  have bd_1 := bd_0.trans (hB1.mono bd_0.size)
  have hS1 := HSR.out U1 c0_1 c1_1
  refine hK.out _ _ hS1 (fun _ => ?_)
  clear hK K hS0 cr_0 bd_0 c0_0 c1_0 
  refine one_ready (i := 3) (by kernel_rfl) rfl (fun K hK => ?_)
  go_simp
  refine (add_any x ny _ _ U1 (hvx.later bd_1 bd_1.size) hu (by have := HX'.out; omega) (by have := HNL.out; omega) (fun _ => ⟨HX.out, HNL.out⟩)).mono ?_
  rintro e U2 ⟨⟨v, rfl, hv⟩, hB2⟩
  unfold errI
  rw [HXY.out] at hv ⊢
  obtain ⟨ev, hev⟩ : ∃ ev : Int, ev = if InR (x - y) then 0 else 4 := ⟨_, rfl⟩
  obtain ⟨zz, hzz⟩ : ∃ zz : Int, zz = if InR (x - y) then x - y else 0 := ⟨_, rfl⟩
  rw [← hev]
  rw [← hzz] at hv
  have HEV := Lib.hid hev
  have HZZ := Lib.hid hzz
  clear hev hzz
  obtain ⟨u', rfl, hu'⟩ := hv
  have hu2 := hu'
  obtain ⟨A', c', rfl, -, -, -⟩ := hu2
  unfold intV
  dsimp only
  have c0_2 := c0_1.below hB2 c0_1.lt
  have c1_2 := c1_1.below hB2 c1_1.lt
  have cr_2 := cr_1.below hB2 cr_1.lt
  have bd_2 := bd_1.trans (hB2.mono bd_1.size)
  have hS2 := HSR.out U2 c0_2 c1_2
  refine hK.out _ _ hS2 (fun _ => ?_)
  clear hK K hS1 cr_1 bd_1 c0_1 c1_1 hu hB1
  refine wpAnyH_take (i := 4) (v := .agg #[.bool (decide (zz < 0)), .slice A' (ws zz.natAbs).length c']) rfl (by kernel_rfl) (by kernel_rfl) (by kernel_rfl) (fun _ _ _ h => h) (Or.inl ⟨by rfl, by intro w hSw; go_simp⟩) hS2 ?_
  refine wpAnyH_take (i := 5) (v := .int .i64 ev) rfl (by kernel_rfl) (by kernel_rfl) (by kernel_rfl) (fun _ _ _ h => h) (Or.inl ⟨by rfl, by intro w hSw; go_simp⟩) hS2 ?_
  simp only [Act.put, List.setIfInBounds_toArray]
  have cl0 := cr_2.cell 0 _ rfl
  have cl1 := cr_2.cell 1 _ rfl
  have fz0 := cr_2.frozen 0
  have fz1 := cr_2.frozen 1
  refine one_ready (i := 6) (by kernel_rfl) rfl (fun K hK => ?_)
  go_simp
  obtain ⟨WZ, hWZ⟩ : ∃ WZ, WZ = ((U2.setCell ⟨w.heap.size + 1 + 1, 0, none⟩ (.bool (decide (zz < 0)))).setCell ⟨w.heap.size + 1 + 1, 1, none⟩ (.slice A' (ws zz.natAbs).length c')) := ⟨_, rfl⟩
  have c0_3 : Row WZ (w.heap.size) 33 [.bool s, .slice A n c] := by rw [hWZ]; exact (c0_2.other _ _ (by omega)).other _ _ (by omega)
  have c1_3 : Row WZ (w.heap.size + 1) 33 [.bool t, .slice C m d] := by rw [hWZ]; exact (c1_2.other _ _ (by omega)).other _ _ (by omega)
  have cr_3 : Row WZ (w.heap.size + 1 + 1) 33 [.bool (decide (zz < 0)), .slice A' (ws zz.natAbs).length c'] := by rw [hWZ]; exact cr_2.set2 _ _
  have bt : But U2.heap.size (w.heap.size + 1 + 1) U2 WZ := by rw [hWZ]; exact (But.setCell _ _ _ _ _).trans (But.setCell _ _ _ _ _)
  rw [← hWZ]
  clear hWZ cl0 cl1 fz0 fz1
  refine hK.out _ _ (HSR.out WZ c0_3 c1_3) (fun hS3 => ?_)
  clear hK K
  refine wpAnyH_take (i := 7) (v := .int .i64 ev) rfl (by kernel_rfl) (by kernel_rfl) (by kernel_rfl) (fun _ _ _ h => h) (Or.inl ⟨by rfl, by intro w hSw; go_simp⟩) hS3 ?_
  refine wpAnyH_done (by kernel_rfl) ?_ _
  go_wp2_with fail
  refine bodyPost_ret (res_row_tmp rfl rfl cr_3 Tryd.underlying33 rfl sizeW) rfl ⟨⟨.agg #[.bool (decide (zz < 0)), .slice A' (ws zz.natAbs).length c'], ?_, ?_⟩, bd_2.trans (bt.low.mono (by omega))⟩
  · unfold errI; rw [← HEV.out]; rfl
  · rw [← HZZ.out]
    exact ⟨_, rfl, (Wl.but_struct (B := U2.heap.size) hu' cr_2 bt).grow bt.size⟩
end Go.Proofs.YtmpdoikdadjneaaDoor
