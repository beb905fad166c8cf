/- The reference's Split. -/
import Derived.Test.YtedjmpifkgonhaaSbad
namespace Go.Proofs.Ytedjmpifkgonhaa
open Go.RowKit Hb Sm Sx

/-- what is left of the remainders when some indices have been taken: -1 in their places -/
def mark (rs : List Nat) (is : List Nat) : List Int := is.foldl (fun l i => l.set i (-1)) (rs.map fun n : Nat => (n : Int))
theorem mark_snoc (rs is : List Nat) (i : Nat) : mark rs (is ++ [i]) = (mark rs is).set i (-1) := by simp [mark]
theorem mark_len (rs is : List Nat) : (mark rs is).length = rs.length := by
  suffices ∀ l : List Int, (is.foldl (fun l i => l.set i (-1)) l).length = l.length by rw [mark, this]; simp
  induction is with
  | nil => intro l; rfl
  | cons i r ih => intro l; simp [ih]
theorem mark_get (rs is : List Nat) (j : Nat) (hj : j < rs.length) : (mark rs is).getD j 0 = if j ∈ is then -1 else ((rs.getD j 0 : Nat) : Int) := by
  suffices ∀ l : List Int, j < l.length → (is.foldl (fun l i => l.set i (-1)) l).getD j 0 = if j ∈ is then -1 else l.getD j 0 by
    rw [mark, this _ (by simpa using hj)]
    congr 1
    simp [List.getD_eq_getElem?_getD, List.getElem?_map, List.getElem?_eq_getElem hj]
  induction is with
  | nil => intro l _; simp
  | cons i r ih =>
    intro l hl
    rw [List.foldl_cons, ih _ (by simpa using hl)]
    by_cases hr : j ∈ r
    · rw [if_pos hr, if_pos (List.mem_cons_of_mem _ hr)]
    · rw [if_neg hr]
      by_cases hij : j = i
      · subst hij
        rw [if_pos (List.mem_cons_self ..)]
        simp [List.getD_eq_getElem?_getD, hl]
      · rw [if_neg (by simp [hij, hr])]
        simp [List.getD_eq_getElem?_getD, Ne.symm hij]
/-- the first of the greatest is the next in the order -/
theorem mark_pick (R : List Nat) (k b : Nat) (hk : k < R.length) (hb : b < R.length)
    (h : ∀ j, j < R.length → (mark R ((ord R).take k)).getD j 0 < (mark R ((ord R).take k)).getD b 0 ∨ ((mark R ((ord R).take k)).getD j 0 = (mark R ((ord R).take k)).getD b 0 ∧ b ≤ j)) :
    (ord R)[k]? = some b := by
  have hkl : k < (ord R).length := by rw [ord_len]; exact hk
  have hj0 : (ord R)[k] ∉ (ord R).take k := by
    intro hm
    obtain ⟨q, hq, he⟩ := List.mem_take_iff_getElem.1 hm
    exact List.pairwise_iff_getElem.1 (ord_nodup R) q k (by omega) hkl (by omega) he
  have hj0l := ord_lt R _ (List.getElem_mem hkl)
  have hnb : b ∉ (ord R).take k := by
    intro hm
    have h1 := h _ hj0l
    rw [mark_get R _ _ hj0l, mark_get R _ _ hb, if_neg hj0, if_pos hm] at h1
    omega
  refine ord_pick R k b hk hb hnb ?_
  intro j hj hnj hbf
  have h1 := h j hj
  rw [mark_get R _ _ hj, mark_get R _ _ hb, if_neg hnj, if_neg hnb] at h1
  unfold before at hbf
  omega
theorem own_some {w : World} {base n c : Nat} {A : Option Addr} {xs : List Value} (h : w.ownsRow base 3 1 (.slice A n c) n xs) (h0 : 0 < n) : ∃ g, A = some ⟨g, 0, none⟩ ∧ base ≤ g ∧ g < w.heap.size := by
  rcases h.2 with ⟨_, h1⟩ | ⟨g, cap, cur, hv, _⟩
  · omega
  · injection hv with hv
    subst hv
    exact ⟨g, rfl, h.lt g rfl⟩
theorem int_at (xs : List Int) (k : Nat) (h : k < xs.length) : (xs.map iv)[k]? = some (.int .i64 (xs.getD k 0)) := by
  rw [List.getElem?_map, List.getD_eq_getElem?_getD, List.getElem?_eq_getElem h]; rfl
/-- two rows of the call's own share no block -/
def Apart (v v' : Value) : Prop := ∀ x, v.ownBlock = some x → v'.ownBlock ≠ some x
theorem Apart.none {v : Value} : Apart (.slice none 0 0) v := fun x h => by cases h
theorem Apart.sym {v v' : Value} (h : Apart v v') : Apart v' v := fun x h1 h2 => h x h2 h1
theorem Apart.ne {v v' : Value} (h : Apart v v') : v.ownBlock = Option.none ∨ v.ownBlock ≠ v'.ownBlock := by
  cases hv : v.ownBlock with
  | none => exact .inl rfl
  | some x => exact .inr (fun e => h x hv e.symm)
/-- a row that grows stays apart from another one -/
theorem Apart.grow {w w' : World} {base n : Nat} {e : TypeId} {v v1 v' : Value} {xs : List Value} (h : Apart v v') (ho : w.ownsRow base e 1 v' n xs) (h1 : v1.ownBlock = v.ownBlock ∨ v1.ownBlock = some w'.heap.size) (hs : w.heap.size ≤ w'.heap.size) : Apart v1 v' := by
  intro x hx hx'
  rcases h1 with h1 | h1
  · exact h x (by rw [← h1]; exact hx) hx'
  · rw [h1] at hx
    injection hx with hx
    have := (ho.lt x hx').2
    omega

set_option maxRecDepth 100000 in
set_option maxHeartbeats 8000000 in
theorem rsplit_ok (t : Nat) (ws : List Nat) (n c : Nat) (A : Option Addr) (ht : t ≤ 1099511627776) (hws : ∀ x ∈ ws, x ≤ 1099511627776) (S : Nat) (hS : S = ws.sum) (hS0 : 0 < S) (hn : n ≤ 8) (w : World) (hr : Rd w w.heap.size A n (ws.map nv)) :
    Calls Try.prog 20 #[.int .i64 t, .slice A n c] w fun e w' => ∃ A' c', e = .returned (.tuple #[.slice A' n c', .int .i64 0]) ∧ Rd w' w'.heap.size A' n ((split t ws).map nv) ∧ Below w.heap.size w w' := by
  obtain ⟨i0, hi, hz0, hz1, hz2⟩ := info_parts infoI
  have hl : ws.length = n := by simpa using hr.1
  have hS8 : S ≤ 8796093022208 := by
    have : ∀ l : List Nat, (∀ x ∈ l, x ≤ 1099511627776) → l.sum ≤ l.length * 1099511627776 := by
      intro l
      induction l with
      | nil => intro _; simp
      | cons x r ih => intro h; have := h x (List.mem_cons_self ..); have := ih fun y hy => h y (List.mem_cons_of_mem _ hy); simp only [List.sum_cons, List.length_cons]; omega
    have := this ws hws
    rw [hl, ← hS] at this
    omega
  have hn0 : 0 < n := by
    rcases Nat.eq_zero_or_pos n with h | h
    · rw [h] at hl
      have := List.eq_nil_of_length_eq_zero hl
      rw [this] at hS
      simp at hS
      omega
    · exact h
  have ca := ramount t w
  rw [show isAm (t : Int) = true from decide_eq_true (by omega)] at ca
  have hS1 : ((S : Int) == 0) = false := by simp; omega
  have hS2 : decide ((S : Int) > 1152921504606846976) = false := decide_eq_false (by omega)
  obtain ⟨R, hR⟩ : ∃ R, R = rs t S ws := ⟨_, rfl⟩
  obtain ⟨Q, hQ⟩ : ∃ Q, Q = qs t S ws := ⟨_, rfl⟩
  have HL := Lib.hid hl
  have HS := Lib.hid hS
  have HW := Lib.hid hws
  have HR := Lib.hid hR
  have HQ := Lib.hid hQ
  clear hl hws hR hQ hS
  go_enter Try.func20, Try.ntmps20
  -- the sum of the weights
  go_upto_block 0 with (fail)
  go_cut [6, 7, 8] from 19 to 41 (fun sv _ _ wx => sv = .int .i64 S ∧ w = wx)
  case first =>
    go_wp2_with fail
    go_loop [6, 7, 8] (fun sv ix _ => ∃ (k s : Nat), k ≤ n ∧ sv = .int .i64 s ∧ ix = .int .i64 k ∧ s ≤ 8796093022208 ∧ Hid (s = (ws.take k).sum)) (fun _ ix _ => n - (intOf ix).toNat)
    case atStart => exact ⟨0, 0, Nat.zero_le _, rfl, rfl, by omega, rfl⟩
    case round =>
      obtain ⟨k, s, hk, rfl, rfl, hs1, H⟩ := hrel
      by_cases hlt : k < n
      · have hck := Rd.nat' hr k hlt
        obtain ⟨a, rfl, hc⟩ := hck
        obtain ⟨x, hx⟩ : ∃ x, x = ws.getD k 0 := ⟨_, rfl⟩
        rw [← hx] at hc
        have hn' : k < ws.length := by rw [HL.out]; exact hlt
        have hx40 : x ≤ 1099511627776 := by
          rw [hx, List.getD_eq_getElem?_getD, List.getElem?_eq_getElem hn']
          exact HW.out _ (List.getElem_mem hn')
        have cc := ramount x w
        rw [show isAm (x : Int) = true from decide_eq_true (by omega)] at cc
        have H2 := Lib.hid (show s + x = (ws.take (k + 1)).sum from by
          rw [take_snoc ws 0 k hn', ← hx, List.sum_append, ← H.out]; simp)
        have h3 : s + x ≤ 8796093022208 := by rw [H2.out]; exact Nat.le_trans (take_sum_le _ _) (by rw [← HS.out]; exact hS8)
        have d2 : decide ((s : Int) > 1152921504606846976) = false := decide_eq_false (by omega)
        clear hx
        go_wp2_with fail
        refine cc.mono ?_
        rintro e W ⟨rfl, rfl⟩
        go_wp2_with fail
        go_round
        case rel => exact ⟨k + 1, s + x, by omega, by go_num, by go_num, h3, H2⟩
        case measure => simp [intOf]; omega
      · have h2 : s = S := by
          have h1 := H.out
          rw [List.take_of_length_le (by rw [HL.out]; omega), ← HS.out] at h1
          exact h1
        subst h2
        go_wp2_with fail
        go_meet
        case rel => exact ⟨rfl, rfl⟩
  case rest =>
    obtain ⟨rfl, rfl⟩ := hcut
    go_wp2_with fail
    refine ca.mono ?_
    rintro e W ⟨rfl, rfl⟩
    go_wp2_with fail
    -- quotas and remainders
    go_loopw [10, 11, 12, 13, 14, 15, 16] (fun ov rv mv ix _ _ _ wr => ∃ (k M : Nat) (A1 : Option Addr) (c1 : Nat) (A2 : Option Addr) (c2 : Nat), k ≤ n ∧ ov = .slice A1 k c1 ∧ rv = .slice A2 k c2 ∧ mv = .int .i64 M ∧ ix = .int .i64 k ∧ M ≤ t ∧ Hid (M + (Q.take k).sum = t) ∧ wr.ownsRow w.heap.size 3 1 (.slice A1 k c1) k ((Q.take k).map nv) ∧ wr.ownsRow w.heap.size 3 1 (.slice A2 k c2) k ((R.take k).map nv) ∧ Apart (.slice A1 k c1) (.slice A2 k c2) ∧ Below w.heap.size w wr) (fun _ _ _ ix _ _ _ _ => n - (intOf ix).toNat)
    case atStart => exact ⟨0, t, none, 0, none, 0, Nat.zero_le _, rfl, rfl, rfl, rfl, Nat.le_refl _, by rw [List.take_zero]; rfl, World.ownsRow_nil _ _ _ _, World.ownsRow_nil _ _ _ _, Apart.none, Below.refl _ _⟩
    case round =>
      clear ca hS1 hS2
      obtain ⟨k, M, A1, c1, A2, c2, hkn, rfl, rfl, rfl, rfl, hMt, HM, ho1, ho2, hap, hB⟩ := hrel
      by_cases hlt : k < n
      · have hw' : k < ws.length := by rw [HL.out]; exact hlt
        obtain ⟨a, rfl, hck⟩ := Rd.nat' (hr.below hB) k hlt
        obtain ⟨x, hx⟩ : ∃ x, x = ws.getD k 0 := ⟨_, rfl⟩
        rw [← hx] at hck
        have hxS : x ≤ S := by rw [hx, HS.out]; exact getD_sum_le ws k
        have hx40 : x ≤ 1099511627776 := by
          rw [hx, List.getD_eq_getElem?_getD, List.getElem?_eq_getElem hw']
          exact HW.out _ (List.getElem_mem hw')
        have hqk : Q.getD k 0 = t * x / S := by rw [HQ.out, hx]; simp [qs, List.getD_eq_getElem?_getD, List.getElem?_map, List.getElem?_eq_getElem hw']
        have hrk : R.getD k 0 = t * x % S := by rw [HR.out, hx, rs_get]
        have hqt : t * x / S ≤ t := by
          have h1 : t * x ≤ t * S := Nat.mul_le_mul_left _ hxS
          have h2 := Nat.div_le_div_right (c := S) h1
          rw [Nat.mul_div_cancel _ hS0] at h2
          exact h2
        have hrS : t * x % S < S := Nat.mod_lt _ hS0
        have cd := rdivide t x S (by omega) (by omega) hS0 (by omega) wr
        rw [← hqk] at cd hqt
        rw [← hrk] at cd hrS
        obtain ⟨q, hq⟩ : ∃ q, q = Q.getD k 0 := ⟨_, rfl⟩
        obtain ⟨r, hr2⟩ : ∃ r, r = R.getD k 0 := ⟨_, rfl⟩
        rw [← hq] at cd hqt
        rw [← hr2] at cd hrS
        have hQl : Q.length = n := by rw [HQ.out, qs_len, HL.out]
        have hRl : R.length = n := by rw [HR.out, rs_len, HL.out]
        have hsum : M - q + (Q.take (k + 1)).sum = t ∧ q ≤ M := by
          have h1 := HM.out
          have h2 : (Q.take (k + 1)).sum ≤ Q.sum := take_sum_le _ _
          have h3 : Q.sum ≤ t := by rw [HQ.out, HS.out]; exact qs_le t ws (by rw [← HS.out]; exact hS0)
          rw [take_snoc Q 0 k (by rw [hQl]; exact hlt), List.sum_append, ← hq] at h2 ⊢
          simp only [List.sum_cons, List.sum_nil] at *
          omega
        have e1 : (Q.take k).map nv ++ [nv q] = (Q.take (k + 1)).map nv := by rw [take_snoc Q 0 k (by rw [hQl]; exact hlt), ← hq, List.map_append]; rfl
        have e2 : (R.take k).map nv ++ [nv r] = (R.take (k + 1)).map nv := by rw [take_snoc R 0 k (by rw [hRl]; exact hlt), ← hr2, List.map_append]; rfl
        have hqM := hsum.2
        have HSUM := Lib.hid hsum.1
        have HE := Lib.hid (And.intro e1 e2)
        have HB := Lib.hid hB
        have hs := hB.size
        have HAP := Lib.hid hap
        have O1 := Lib.hid ho1
        have O2 := Lib.hid ho2
        clear hx hqk hrk hq hr2 hQl hRl hsum e1 e2 HM hB hap ho1 ho2
        go_wp2_with fail
        refine cd.mono ?_
        rintro e W ⟨hcase, rfl⟩
        rcases hcase with ⟨-, rfl⟩ | ⟨hbig, rfl⟩
        · clear cd hck
          go_wp2_with (first | (at_builtin; refine wpList_append_rd _ rfl _ _ 23 rfl w.heap.size 3 i0 (.int .i64 0) 8 Try.underlying23 hi hz0 hz1 hz2 rfl (.slice A1 k c1) k _ rfl (O1.out.alloc _) (wr.heap.size + 1) (some ⟨wr.heap.size, 0, none⟩) 1 1 [nv q] rfl (boxed_rd wr (nv q) 3) (fun u hu => by rw [List.mem_singleton.1 hu]; rfl) (by unfold maxLen; omega) (by omega) (by simp; omega) ?_; intro A3 c3 W2 ho3 hg3 hb3; have ho2 := O2.out.alloc (.cells #[nv q] 3); have ho4 := ho2.kept hg3 (HAP.out.sym.ne); have hB3 := own_grown (HB.out.alloc hs (.cells #[nv q] 3)) (O1.out.alloc _) hg3 (by simp; omega); have hs3 := hB3.size; have hap3 := HAP.out.grow ho2 hb3 (by simp); have P3 := Lib.hid ho3; have P4 := Lib.hid ho4; have PB := Lib.hid hB3; have PA := Lib.hid hap3; clear ho2 ho3 ho4 hB3 hap3 hg3 hb3) | (at_builtin; refine wpList_append_rd _ rfl _ _ 23 rfl w.heap.size 3 i0 (.int .i64 0) 8 Try.underlying23 hi hz0 hz1 hz2 rfl (.slice A2 k c2) k _ rfl (P4.out.alloc _) (W2.heap.size + 1) (some ⟨W2.heap.size, 0, none⟩) 1 1 [nv r] rfl (boxed_rd W2 (nv r) 3) (fun u hu => by rw [List.mem_singleton.1 hu]; rfl) (by unfold maxLen; omega) (by omega) (by simp; omega) ?_; intro A4 c4 W5 ho5 hg5 hb5; have ho6 := (P3.out.alloc (.cells #[nv r] 3)).kept hg5 (PA.out.ne); have hap5 := (PA.out.sym.grow (P3.out.alloc (.cells #[nv r] 3)) hb5 (by simp)).sym; have hB5 := own_grown (PB.out.alloc hs3 (.cells #[nv r] 3)) (P4.out.alloc _) hg5 (by simp; omega); have P5 := Lib.hid ho5; have P6 := Lib.hid ho6; have PB5 := Lib.hid hB5; have PA5 := Lib.hid hap5; clear ho5 ho6 hB5 hap5 hg5 hb5))
          go_roundw
          case rel => exact ⟨k + 1, M - q, A3, c3, A4, c4, by omega, rfl, rfl, by go_num, by go_num, by omega, HSUM.out, own_cast P6.out rfl HE.out.1, own_cast P5.out rfl HE.out.2, PA5.out, PB5.out⟩
          case measure => simp [intOf]; omega
        · exact absurd hbig (by omega)
      · have hkn' : k = n := by omega
        subst hkn'
        have hQl : Q.length = k := by rw [HQ.out, qs_len, HL.out]
        have hRl : R.length = k := by rw [HR.out, rs_len, HL.out]
        have o1 := own_cast ho1 rfl (show _ = Q.map nv by rw [List.take_of_length_le (by omega)])
        have o2 := own_cast ho2 rfl (show _ = (mark R []).map iv by rw [List.take_of_length_le (by omega)]; unfold mark; rw [List.foldl_nil, map_iv_nv])
        obtain ⟨g, rfl, hg, hgl⟩ := own_some o1 hn0
        obtain ⟨h, rfl, hh, hhl⟩ := own_some o2 hn0
        have hgh : g ≠ h := by
          intro e
          exact hap g rfl (by rw [e]; rfl)
        have hM : M + Q.sum = t := by have := HM.out; rwa [List.take_of_length_le (by omega)] at this
        have hMm : M = miss t ws := by
          unfold miss
          rw [← HS.out, ← HQ.out]
          omega
        have hMn : M ≤ k := by
          rw [hMm, ← HL.out]
          exact miss_le t ws (by rw [← HS.out]; exact hS0)
        have hres : split t ws = bump Q ((ord R).take M) := by
          unfold split
          rw [hMm, HQ.out, HR.out, HS.out]
        have HRES := Lib.hid hres
        have HMQ := Lib.hid hM
        have HLL := Lib.hid (And.intro hQl hRl)
        have O1 := Lib.hid o1
        have O2 := Lib.hid o2
        have HB := Lib.hid hB
        clear ho1 ho2 o1 o2 hQl hRl hM hMm hres hB HM hap hlt hgl hhl
        obtain ⟨n, rfl⟩ : ∃ n, n = k := ⟨_, rfl⟩
        go_wp2_with fail
        go_loopw [12, 17, 18] (fun lv _ _ wx => ∃ (k L : Nat), k + L = M ∧ lv = .int .i64 L ∧ wx.ownsRow w.heap.size 3 1 (.slice (some ⟨g, 0, none⟩) n c1) n ((bump Q ((ord R).take k)).map nv) ∧ wx.ownsRow w.heap.size 3 1 (.slice (some ⟨h, 0, none⟩) n c2) n ((mark R ((ord R).take k)).map iv) ∧ Below w.heap.size w wx) (fun lv _ _ _ => (intOf lv).toNat)
        case atStart => exact ⟨0, M, by omega, rfl, O1.out, O2.out, HB.out⟩
        case round =>
          clear O1 O2 HB
          obtain ⟨k, L, hkL, rfl, ho1, ho2, hB⟩ := hrel
          obtain ⟨wo, hwo⟩ : ∃ wo : World, wo = wr := ⟨_, rfl⟩
          rw [← hwo] at ho1 ho2 hB ⊢
          clear hwo
          clear wr
          cases L with
          | zero =>
            have hkM : k = M := by omega
            subst hkM
            have O := Lib.hid (own_cast ho1 rfl (by rw [← HRES.out]))
            clear ho1 ho2
            go_wp2_with fail
            go_ret2
            exact ⟨_, _, rfl, Rd.of_own O.out, hB⟩
          | succ L =>
            have hkR : k < R.length := by rw [HLL.out.2]; omega
            obtain ⟨m, hm⟩ : ∃ m, m = mark R ((ord R).take k) := ⟨_, rfl⟩
            have hml : m.length = n := by rw [hm, mark_len, HLL.out.2]
            rw [← hm] at ho2
            have HMK := Lib.hid hm
            have HML := Lib.hid hml
            have O1 := Lib.hid ho1
            have O2 := Lib.hid ho2
            have HB := Lib.hid hB
            clear hm hml ho1 ho2 hB
            go_wp2_with fail
            go_loopw [17, 18] (fun bv ix wx => ∃ (b i : Nat), bv = .int .i64 b ∧ ix = .int .i64 i ∧ b < i ∧ i ≤ n ∧ Hid (∀ j, j < i → m.getD j 0 < m.getD b 0 ∨ (m.getD j 0 = m.getD b 0 ∧ b ≤ j)) ∧ Hid (Quiet wo wx)) (fun _ ix _ => n - (intOf ix).toNat)
            case atStart => exact ⟨0, 1, rfl, rfl, by omega, by omega, fun j hj => .inr ⟨by rw [show j = 0 by omega], by omega⟩, ⟨0, rfl⟩⟩
            case round =>
              obtain ⟨b, i, rfl, rfl, hbi, hin, HF, HQU⟩ := hrel
              by_cases hlt : i < n
              · have o2 := own_below O2.out (HQU.out.below _) (Nat.le_refl _)
                obtain ⟨x, hx⟩ : ∃ x, x = m.getD i 0 := ⟨_, rfl⟩
                obtain ⟨y, hy⟩ : ∃ y, y = m.getD b 0 := ⟨_, rfl⟩
                have cx : wr.cell? ⟨h, i, none⟩ = some (.int .i64 x) := by rw [o2.cellAt i (by omega), int_at m i (by rw [HML.out]; exact hlt), ← hx]
                have cy : wr.cell? ⟨h, b, none⟩ = some (.int .i64 y) := by rw [o2.cellAt b (by omega), int_at m b (by rw [HML.out]; omega), ← hy]
                have b1 : (b : Int) < (n : Int) := by omega
                have b2 : (i : Int) < (n : Int) := by omega
                have HX := Lib.hid (And.intro hx hy)
                clear o2 hx hy
                by_cases hxy : y < x
                · have d1 : decide (x > y) = true := decide_eq_true hxy
                  have HF2 := Lib.hid (show ∀ j, j < i + 1 → m.getD j 0 < m.getD i 0 ∨ (m.getD j 0 = m.getD i 0 ∧ i ≤ j) from fun j hj => by
                    rw [← HX.out.1]
                    by_cases hji : j = i
                    · subst hji; exact .inr ⟨HX.out.1.symm, Nat.le_refl _⟩
                    · have h1 := HF.out j (by omega)
                      rw [← HX.out.2] at h1
                      left
                      rcases h1 with h1 | h1 <;> omega)
                  clear HX
                  go_wp2_with fail
                  go_quiet (fail)
                  go_wp2_with fail
                  go_roundw
                  case rel => exact ⟨i, i + 1, rfl, by go_num, by omega, by omega, HF2, HQU.out.n _⟩
                  case measure => simp [intOf]; omega
                · have d1 : decide (x > y) = false := decide_eq_false hxy
                  have HF2 := Lib.hid (show ∀ j, j < i + 1 → m.getD j 0 < m.getD b 0 ∨ (m.getD j 0 = m.getD b 0 ∧ b ≤ j) from fun j hj => by
                    by_cases hji : j = i
                    · subst hji
                      rw [← HX.out.1, ← HX.out.2]
                      by_cases he : x = y
                      · exact .inr ⟨he, by omega⟩
                      · left; omega
                    · exact HF.out j (by omega))
                  have hle : x ≤ y := by omega
                  clear HX hxy
                  go_wp2_with fail
                  go_quiet (fail)
                  go_wp2_with fail
                  go_roundw
                  case rel => exact ⟨b, i + 1, rfl, by go_num, by omega, by omega, HF2, HQU.out.n _⟩
                  case measure => simp [intOf]; omega
              · have hie : i = n := by omega
                subst hie
                have hpick : (ord R)[k]? = some b := by
                  refine mark_pick R k b hkR (by rw [HLL.out.2]; exact hbi) ?_
                  rw [← HMK.out, HLL.out.2]
                  exact HF.out
                have o1 := own_below O1.out (HQU.out.below _) (Nat.le_refl _)
                have o2 := own_below O2.out (HQU.out.below _) (Nat.le_refl _)
                have hB := HB.out.trans (HQU.out.below _)
                obtain ⟨p, hp⟩ : ∃ p, p = (bump Q ((ord R).take k)).getD b 0 := ⟨_, rfl⟩
                have hbl : (bump Q ((ord R).take k)).length = i := by rw [bump_len, HLL.out.1]
                have cp : wr.cell? ⟨g, b, none⟩ = some (.int .i64 p) := by
                  rw [o1.cellAt b (by omega), map_at _ b (by rw [hbl]; exact hbi), ← hp]
                have hpt : p ≤ t := by
                  rw [hp]
                  refine Nat.le_trans (getD_sum_le _ _) ?_
                  rw [bump_sum _ _ (fun j hj => by rw [HLL.out.1, ← HLL.out.2]; exact ord_lt R j (List.mem_of_mem_take hj)), List.length_take, ← HMQ.out]
                  omega
                have hto : (ord R).take (k + 1) = (ord R).take k ++ [b] := by
                  have hkl : k < (ord R).length := by rw [ord_len]; exact hkR
                  rw [List.take_succ_eq_append_getElem hkl]
                  rw [List.getElem?_eq_getElem hkl] at hpick
                  injection hpick with hpick
                  rw [hpick]
                obtain ⟨P, hP⟩ : ∃ P, P = p + 1 := ⟨_, rfl⟩
                have w1 : (p : Int) + 1 = (P : Int) := by omega
                have e1 : ((bump Q ((ord R).take k)).map nv).set b (nv P) = (bump Q ((ord R).take (k + 1))).map nv := by
                  rw [hto, bump_snoc]
                  unfold bump1
                  rw [← hp, ← hP, List.map_set]
                have e2 : (m.map iv).set b (iv (-1)) = (mark R ((ord R).take (k + 1))).map iv := by
                  rw [hto, mark_snoc, ← HMK.out, List.map_set]
                have fz1 := o1.frozenAt b
                have fz2 : (wr.setCell ⟨g, b, none⟩ (.int .i64 (P : Int))).frozen? ⟨h, b, none⟩ = false := by rw [World.frozen?_setCell]; exact o2.frozenAt b
                obtain ⟨y, hy⟩ : ∃ y, y = m.getD b 0 := ⟨_, rfl⟩
                have cy : (wr.setCell ⟨g, b, none⟩ (.int .i64 (P : Int))).cell? ⟨h, b, none⟩ = some (.int .i64 y) := by
                  rw [World.cell?_setCell_other _ _ _ _ (by intro e; simp only [Addr.mk.injEq] at e; omega), o2.cellAt b (by omega), int_at m b (by rw [HML.out]; omega), ← hy]
                have q1 := (o1.stored b (nv P)).1
                have q2 := o2.kept (o1.stored b (nv P)).2 (.inr (by simp [Value.ownBlock]; omega))
                have q3 := (q2.stored b (iv (-1))).1
                have q4 := q1.kept (q2.stored b (iv (-1))).2 (.inr (by simp [Value.ownBlock]; omega))
                have hB2 := (hB.setCell (p := ⟨g, b, none⟩) hg (nv P)).setCell (p := ⟨h, b, none⟩) hh (iv (-1))
                have Q3 := Lib.hid (own_cast q3 rfl e2)
                have Q4 := Lib.hid (own_cast q4 rfl e1)
                have b1 : (b : Int) < (i : Int) := by omega
                unfold nv iv at Q3 Q4 hB2
                clear o1 o2 q1 q2 q3 q4 e1 e2 hto hp hbl hpick hy hB hP
                go_wp2_with fail
                go_roundw
                case rel => exact ⟨k + 1, L, by omega, by first | rfl | go_num, Q4.out, Q3.out, hB2⟩
                case measure => first | (simp [intOf]; done) | (simp [intOf]; omega)
end Go.Proofs.Ytedjmpifkgonhaa
