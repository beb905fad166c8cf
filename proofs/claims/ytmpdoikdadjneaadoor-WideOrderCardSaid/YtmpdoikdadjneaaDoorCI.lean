/- The reference's integers in memory: digits in base 10000; at, normal. -/
import Derived.Test.YtmpdoikdadjneaaDoorCF
import Derived.Test.YtmpdoikdadjneaaDoorCE
namespace Go.Proofs.YtmpdoikdadjneaaDoor
open Go.RowKit Hb Vm Ds

def dw (n : Nat) : Value := .int .i64 (n : Int)
def ds (n : Nat) : List Nat := digs 10000 n
theorem ds_val (n : Nat) : val 10000 (ds n) = n := val_digs _ (by decide) n
theorem ds_dig (n : Nat) : Dig 10000 (ds n) := dig_digs _ (by decide) n
/-- a slice holds the digits of n -/
def Nl (W : World) (B : Nat) (v : Value) (n : Nat) : Prop := ∃ A c, v = .slice A (ds n).length c ∧ Rd W B A (ds n).length ((ds n).map dw) ∧ (ds n).length ≤ c ∧ c ≤ maxLen
theorem Nl.later {W W' : World} {B B' : Nat} {v : Value} {n : Nat} (h : Nl W B v n) (hb : Below B W W') (hB : B ≤ B') : Nl W' B' v n :=
  let ⟨A, c, e, h1, h2, h3⟩ := h; ⟨A, c, e, (h1.below hb).mono hB, h2, h3⟩
theorem Nl.nil (W : World) (B : Nat) : Nl W B (.slice none 0 0) 0 := ⟨none, 0, rfl, Rd.nil _ _ _, Nat.le_refl _, Nat.zero_le _⟩
/-- an integer of the reference -/
def Ni (W : World) (B : Nat) (v : Value) (z : Int) : Prop := ∃ u, v = intV z u ∧ Nl W B u z.natAbs
theorem Ni.later {W W' : World} {B B' : Nat} {v : Value} {z : Int} (h : Ni W B v z) (hb : Below B W W') (hB : B ≤ B') : Ni W' B' v z :=
  let ⟨u, e, hu⟩ := h; ⟨u, e, hu.later hb hB⟩
theorem Rd.digit {W : World} {B n k : Nat} {A : Option Addr} {xs : List Nat} (h : Rd W B A n (xs.map dw)) (hk : k < n) : ∃ a, A = some a ∧ a.block < B ∧ W.cell? (a.add k) = some (.int .i64 (xs.getD k 0 : Nat)) := by
  have hl : xs.length = n := by simpa using h.1
  obtain ⟨a, e, hb, hc⟩ := h.2 (by omega)
  refine ⟨a, e, hb, hc k _ ?_⟩
  rw [List.getElem?_map, List.getD_eq_getElem?_getD, List.getElem?_eq_getElem (by omega)]
  rfl
theorem sizeN : (Tryd.prog.info? 25).map (·.size) = some 2 := by kernel_rfl

theorem at_any (A : Option Addr) (n c k B : Nat) (xs : List Nat) (_hn : n ≤ maxLen) (K : Int) (hK : K = (k : Int)) (_hk : k ≤ maxLen) (w : World) (hr : Rd w B A n (xs.map dw)) :
    Calls Tryd.prog 78 #[.slice A n c, .int .i64 K] w fun e w' => e = .returned (.int .i64 (xs.getD k 0 : Nat)) ∧ w = w' := by
  subst hK
  have hl : xs.length = n := by simpa using hr.1
  obtain ⟨u, hu⟩ : ∃ u, u = xs.getD k 0 := ⟨_, rfl⟩
  rw [← hu]
  by_cases hk : k < n
  · obtain ⟨a, rfl, hb, hcell⟩ := Rd.digit hr hk
    rw [← hu] at hcell
    have hk' : (k : Int) < (n : Int) := by omega
    clear hl hu
    go_enter Tryd.func78, Tryd.ntmps78
    go_wp2
    go_ret
    exact ⟨rfl, rfl⟩
  · have h0 : u = 0 := by rw [hu, List.getD_eq_getElem?_getD, List.getElem?_eq_none (by omega)]; rfl
    have hk' : ¬ (k : Int) < (n : Int) := by omega
    subst h0
    clear hl hu
    go_enter Tryd.func78, Tryd.ntmps78
    go_wp2
    go_ret
    exact ⟨rfl, rfl⟩

theorem ntrim {B n k c : Nat} {A : Option Addr} {xs : List Nat} {W : World} (hr : Rd W B A n (xs.map dw)) (hnc : n ≤ c) (hc : c ≤ maxLen) (hd : Dig 10000 xs) (hk : k ≤ n) (h0 : ∀ j, k ≤ j → xs.getD j 0 = 0) (h1 : k = 0 ∨ xs.getD (k - 1) 0 ≠ 0) :
    Nl W B (.slice A k c) (val 10000 xs) ∧ (ds (val 10000 xs)).length = k := by
  have hl : xs.length = n := by simpa using hr.1
  have ht := trim_digs (by decide) xs k (by omega) h0 h1 hd
  have hlen : (ds (val 10000 xs)).length = k := by
    unfold ds
    rw [← ht, List.length_take]; omega
  refine ⟨⟨A, c, by rw [hlen], ?_, by omega, hc⟩, hlen⟩
  rw [hlen]
  unfold ds
  rw [← ht, List.map_take]
  exact hr.take k hk
theorem sgn_val (neg : Bool) (m k : Nat) (hk : (ds m).length = k) (z : Int) (hz : z = if neg = true then -(m : Int) else (m : Int)) : decide (z < 0) = (neg && decide (0 < k)) ∧ z.natAbs = m := by
  have h0 : (ds m).length = 0 ↔ m = 0 := digs_nil (by decide)
  cases neg with
  | true =>
    rw [if_pos rfl] at hz
    refine ⟨?_, by omega⟩
    rw [Bool.true_and]
    by_cases h : k = 0
    · have := h0.1 (by omega)
      rw [decide_eq_false (by omega), decide_eq_false (by omega)]
    · have : ¬ m = 0 := fun e => h (by have := h0.2 e; omega)
      rw [decide_eq_true (by omega), decide_eq_true (by omega)]
  | false =>
    rw [if_neg (by decide)] at hz
    refine ⟨?_, by omega⟩
    rw [Bool.false_and, decide_eq_false (by omega)]

/-- what normal answers: the slice itself, cut -/
def NormR (A : Option Addr) (c : Nat) (z : Int) (W' : World) (e : Ending) : Prop := ∃ k b, e = .returned (.agg #[.bool b, .slice A k c]) ∧ Ni W' W'.heap.size (.agg #[.bool b, .slice A k c]) z
set_option maxRecDepth 100000 in
set_option maxHeartbeats 4000000 in
theorem normal_at (neg : Bool) (A : Option Addr) (n c : Nat) (xs : List Nat) (hnc : n ≤ c) (hc : c ≤ maxLen) (hd : Dig 10000 xs) (z : Int) (hz : z = if neg = true then -(val 10000 xs : Int) else (val 10000 xs : Int)) (w : World) (hr : Rd w w.heap.size A n (xs.map dw)) :
    Calls Tryd.prog 53 #[.bool neg, .slice A n c] w fun e W' => NormR A c z W' e ∧ Below w.heap.size w W' := by
  have hc' := hc
  unfold maxLen at hc
  have hl : xs.length = n := by simpa using hr.1
  have HL := Lib.hid hl
  have HC := Lib.hid hc'
  clear hl hc'
  go_enter Tryd.func53, Tryd.ntmps53
  obtain ⟨w1, hw1⟩ : ∃ w1, w1 = w.alloc (.cells #[.bool false, .slice none 0 0] 25) := ⟨_, rfl⟩
  have b1 : Row w1 w.heap.size 25 [.bool false, .slice none 0 0] := by rw [hw1]; exact Row.new w _ [.bool false, .slice none 0 0]
  have bw : Below w.heap.size w w1 := by rw [hw1]; exact (Below.refl _ w).alloc (Nat.le_refl _) _
  have hr1 := hr.below bw
  have k0 := b1.cell 0 _ rfl
  have k1 := b1.cell 1 _ rfl
  have f0 := b1.frozen 0
  have f1 := b1.frozen 1
  have hfin : ∀ (b : Bool) (k : Nat), Nl w1 w.heap.size (.slice A k c) (val 10000 xs) → (ds (val 10000 xs)).length = k →
      NormR A c z ((w1.setCell ⟨w.heap.size, 0, none⟩ (.bool b)).setCell ⟨w.heap.size, 1, none⟩ (.slice A k c)) (Ending.returned (.agg #[.bool (neg && decide (0 < k)), .slice A k c])) ∧ Below w.heap.size w ((w1.setCell ⟨w.heap.size, 0, none⟩ (.bool b)).setCell ⟨w.heap.size, 1, none⟩ (.slice A k c)) := fun b k h1 h2 => by
    have bt : But w1.heap.size w.heap.size w1 ((w1.setCell ⟨w.heap.size, 0, none⟩ (.bool b)).setCell ⟨w.heap.size, 1, none⟩ (.slice A k c)) := (But.setCell _ _ _ _ _).trans (But.setCell _ _ _ _ _)
    obtain ⟨g1, g2⟩ := sgn_val neg _ k h2 z hz
    exact ⟨⟨k, _, rfl, .slice A k c, by rw [← g1]; rfl, by rw [g2]; exact h1.later (bt.low.mono (by omega)) (by simp; have := bw.size; omega)⟩, bw.trans (bt.low.mono (by omega))⟩
  have HF := Lib.hid hfin
  clear hfin hz
  go_wp2_with fail
  rw [← hw1]
  clear hw1 hr
  go_loop [1] (fun v => ∃ k : Nat, k ≤ n ∧ v = .slice A k c ∧ Hid (∀ j, k ≤ j → xs.getD j 0 = 0)) (fun v => match v with | .slice _ n _ => n | _ => 0)
  case atStart => exact ⟨n, Nat.le_refl _, rfl, Lib.hid fun j hj => by rw [List.getD_eq_getElem?_getD, List.getElem?_eq_none (by rw [HL.out]; exact hj)]; rfl⟩
  case round =>
    obtain ⟨k, hk, rfl, h0⟩ := hrel
    cases k with
    | zero =>
      have hH : Hid (_ ∧ _) := Lib.hid (ntrim hr1 hnc HC.out hd (Nat.zero_le _) h0.out (.inl rfl))
      cases neg with
      | false =>
        go_wp2_with fail
        refine bodyPost_ret (res_row rfl rfl (b1.set2 _ _) Tryd.underlying25 rfl sizeN) rfl ?_
        exact HF.out _ 0 hH.out.1 hH.out.2
      | true =>
        go_wp2_with fail
        refine bodyPost_ret (res_row rfl rfl (b1.set2 _ _) Tryd.underlying25 rfl sizeN) rfl ?_
        exact HF.out _ 0 hH.out.1 hH.out.2
    | succ k =>
      obtain ⟨a, rfl, hb, hcell⟩ := Rd.digit hr1 (show k < n by omega)
      obtain ⟨u, hu⟩ : ∃ u, u = xs.getD k 0 := ⟨_, rfl⟩
      rw [← hu] at hcell
      have HU := Lib.hid hu
      clear hu
      by_cases hz : u = 0
      · subst hz
        have e1 : wrap64 ((k : Int) + 1 - 1) = (k : Int) := by unfold wrap64; omega
        have hkc0 : (0 : Int) ≤ (k : Int) := by omega
        have hkc1 : (k : Int) ≤ (c : Int) := by omega
        have hkc2 : c ≠ 0 := by omega
        go_wp2_with fail
        go_round
        case rel =>
          refine ⟨k, by omega, by go_num, Lib.hid fun j hj => ?_⟩
          by_cases hjk : j = k
          · rw [hjk]; exact HU.out.symm
          · exact h0.out j (by omega)
        case measure => simp
      · have hz' : ((u : Int) == 0) = false := beq_eq_false_iff_ne.2 (by omega)
        have HZ2 := Lib.hid hz
        clear hz
        have hH : Hid (_ ∧ _) := Lib.hid (ntrim hr1 hnc HC.out hd hk h0.out (.inr (by rw [Nat.add_sub_cancel, ← HU.out]; exact HZ2.out)))
        have e1 : wrap64 ((k : Int) + 1 - 1) = (k : Int) := by unfold wrap64; omega
        cases neg with
        | false =>
          go_wp2_with fail
          refine bodyPost_ret (res_row rfl rfl (b1.set2 _ _) Tryd.underlying25 rfl sizeN) rfl ?_
          exact HF.out _ (k + 1) hH.out.1 hH.out.2
        | true =>
          go_wp2_with fail
          refine bodyPost_ret (res_row rfl rfl (b1.set2 _ _) Tryd.underlying25 rfl sizeN) rfl ?_
          exact HF.out _ (k + 1) hH.out.1 hH.out.2
theorem normal_any (neg : Bool) (A : Option Addr) (n c : Nat) (xs : List Nat) (hnc : n ≤ c) (hc : c ≤ maxLen) (hd : Dig 10000 xs) (z : Int) (hz : z = if neg = true then -(val 10000 xs : Int) else (val 10000 xs : Int)) (w : World) (hr : Rd w w.heap.size A n (xs.map dw)) :
    Calls Tryd.prog 53 #[.bool neg, .slice A n c] w fun e W' => (∃ u, e = .returned u ∧ Ni W' W'.heap.size u z) ∧ Below w.heap.size w W' :=
  (normal_at neg A n c xs hnc hc hd z hz w hr).mono fun _ _ ⟨⟨_, _, he, h⟩, hb⟩ => ⟨⟨_, he, h⟩, hb⟩
end Go.Proofs.YtmpdoikdadjneaaDoor

/- The reference's compared. -/
namespace Go.Proofs.YtmpdoikdadjneaaDoor
open Go.RowKit Go.Shelf Hb Vm Ds

theorem ds_len {x y : Nat} (h : (ds x).length < (ds y).length) : x < y := digs_len_lt (by decide) h
theorem ds_eq {x y n : Nat} (h : (ds x).drop 0 = (ds y).drop 0) (_hn : n = n) : x = y := by
  rw [List.drop_zero, List.drop_zero] at h
  have := congrArg (val 10000) h
  rwa [ds_val, ds_val] at this
theorem ds_lt {x y n i : Nat} (hx : (ds x).length = n) (hy : (ds y).length = n) (hi : i < n) (h : (ds x).drop (i + 1) = (ds y).drop (i + 1)) (hlt : (ds x).getD i 0 < (ds y).getD i 0) : x < y := by
  have := val_cmp_at (b := 10000) (by decide) (ds x) (ds y) (ds_dig x) i (by omega) (by omega) h hlt
  rwa [ds_val, ds_val] at this

set_option maxRecDepth 100000 in
set_option maxHeartbeats 4000000 in
theorem compared_any (A C : Option Addr) (n c m d x y : Nat) (hnl : (ds x).length = n) (hml : (ds y).length = m) (hn : n ≤ 1000000) (hm : m ≤ 1000000) (w : World) (hrx : Rd w w.heap.size A n ((ds x).map dw)) (hry : Rd w w.heap.size C m ((ds y).map dw)) :
    Calls Tryd.prog 62 #[.slice A n c, .slice C m d] w fun e W' => e = .returned (.int .i64 (cmpI (x : Int) (y : Int))) ∧ Below w.heap.size w W' := by
  obtain ⟨r, hr⟩ : ∃ r, r = cmpI (x : Int) (y : Int) := ⟨_, rfl⟩
  rw [← hr]
  by_cases h1 : n < m
  · have h1' : (n : Int) < (m : Int) := by omega
    have hlt := ds_len (x := x) (y := y) (by omega)
    have : r = -1 := by rw [hr]; exact cmpI_lt (by omega)
    subst this
    clear hr hnl hml hlt h1
    go_enter Tryd.func62, Tryd.ntmps62
    go_wp2_with fail
    go_ret
    exact ⟨rfl, Below.refl _ _⟩
  · by_cases h2 : m < n
    · have h1' : ¬ (n : Int) < (m : Int) := by omega
      have h2' : (m : Int) < (n : Int) := by omega
      have hlt := ds_len (x := y) (y := x) (by omega)
      have : r = 1 := by rw [hr]; exact cmpI_gt (by omega)
      subst this
      clear hr hnl hml hlt h1 h2
      go_enter Tryd.func62, Tryd.ntmps62
      go_wp2_with fail
      go_ret
      exact ⟨rfl, Below.refl _ _⟩
    · obtain rfl : n = m := by omega
      have HR := Lib.hid hr
      have HX := Lib.hid hnl
      have HY := Lib.hid hml
      clear hr hnl hml h1 h2
      go_enter Tryd.func62, Tryd.ntmps62
      go_wp2_with fail
      go_loopw [5] (fun v W => ∃ k : Nat, k ≤ n ∧ v = .int .i64 ((k : Int) - 1) ∧ Hid ((ds x).drop k = (ds y).drop k) ∧ Below w.heap.size w W) (fun v _ => (intOf v + 1).toNat)
      case atStart => exact ⟨n, Nat.le_refl _, by first | rfl | (unfold wrap64; congr 1; omega), Lib.hid (by rw [List.drop_of_length_le (by rw [HX.out]; exact Nat.le_refl _), List.drop_of_length_le (by rw [HY.out]; exact Nat.le_refl _)]), Below.refl _ _⟩
      case round =>
        obtain ⟨k, hk, rfl, hd, hB⟩ := hrel
        cases k with
        | zero =>
          have hz : r = 0 := by rw [HR.out]; exact cmpI_eq (by rw [ds_eq (n := n) hd.out rfl])
          subst hz
          go_wp2_with fail
          go_ret
          exact ⟨rfl, hB⟩
        | succ k =>
          obtain ⟨a, rfl, hba, hca⟩ := Rd.digit (hrx.below hB) (show k < n by omega)
          obtain ⟨a2, rfl, hbb, hcb⟩ := Rd.digit (hry.below hB) (show k < n by omega)
          obtain ⟨u, hu⟩ : ∃ u, u = (ds x).getD k 0 := ⟨_, rfl⟩
          obtain ⟨v, hv⟩ : ∃ v, v = (ds y).getD k 0 := ⟨_, rfl⟩
          rw [← hu] at hca
          rw [← hv] at hcb
          have HU := Lib.hid hu
          have HV := Lib.hid hv
          clear hu hv
          have e1 : ((k + 1 : Nat) : Int) - 1 = (k : Int) := by omega
          have e2 : (0 : Int) ≤ (k : Int) := by omega
          have e3 : (k : Int) < (n : Int) := by omega
          simp only [e1]
          by_cases hlt : u < v
          · have hlt' : (u : Int) < (v : Int) := by omega
            have hlt2 := ds_lt HX.out HY.out (show k < n by omega) hd.out (by rw [← HU.out, ← HV.out]; exact hlt)
            have hz : r = -1 := by rw [HR.out]; exact cmpI_lt (by omega)
            subst hz
            clear hlt hlt2
            go_wp2_with fail
            go_quiet (fail)
            go_wp2_with fail
            go_ret
            exact ⟨rfl, hB.trans (below_drewN (Below.refl _ _) _)⟩
          · by_cases hgt : v < u
            · have hlt' : ¬ (u : Int) < (v : Int) := by omega
              have hgt' : (v : Int) < (u : Int) := by omega
              have hlt2 := ds_lt HY.out HX.out (show k < n by omega) hd.out.symm (by rw [← HU.out, ← HV.out]; exact hgt)
              have hz : r = 1 := by rw [HR.out]; exact cmpI_gt (by omega)
              subst hz
              clear hlt hgt hlt2
              go_wp2_with fail
              go_quiet (fail)
              obtain ⟨W2, hW2⟩ : ∃ W2, W2 = wr.drewN nq := ⟨_, rfl⟩
              have hB2 : Below w.heap.size w W2 := by rw [hW2]; exact hB.trans (below_drewN (Below.refl _ _) _)
              have hca2 : W2.cell? (a.add k) = some (.int .i64 (u : Int)) := by rw [hW2]; exact hca
              have hcb2 : W2.cell? (a2.add k) = some (.int .i64 (v : Int)) := by rw [hW2]; exact hcb
              rw [← hW2]
              clear hW2 hca hcb hB
              go_wp2_with fail
              go_quiet (fail)
              go_wp2_with fail
              go_ret
              exact ⟨rfl, hB2.trans (below_drewN (Below.refl _ _) _)⟩
            · have hlt' : ¬ (u : Int) < (v : Int) := by omega
              have hgt' : ¬ (v : Int) < (u : Int) := by omega
              have hlx : k < (ds x).length := by rw [HX.out]; omega
              have hly : k < (ds y).length := by rw [HY.out]; omega
              have hdk : Hid ((ds x).drop k = (ds y).drop k) := Lib.hid (by
                rw [List.drop_eq_getElem_cons hlx, List.drop_eq_getElem_cons hly, hd.out]
                have h1 := HU.out
                have h2 := HV.out
                rw [List.getD_eq_getElem?_getD, List.getElem?_eq_getElem hlx] at h1
                rw [List.getD_eq_getElem?_getD, List.getElem?_eq_getElem hly] at h2
                simp only [Option.getD_some] at h1 h2
                rw [← h1, ← h2, show u = v from by omega])
              clear hlt hgt hlx hly
              go_wp2_with fail
              go_quiet (fail)
              obtain ⟨W2, hW2⟩ : ∃ W2, W2 = wr.drewN nq := ⟨_, rfl⟩
              have hB2 : Below w.heap.size w W2 := by rw [hW2]; exact hB.trans (below_drewN (Below.refl _ _) _)
              have hca2 : W2.cell? (a.add k) = some (.int .i64 (u : Int)) := by rw [hW2]; exact hca
              have hcb2 : W2.cell? (a2.add k) = some (.int .i64 (v : Int)) := by rw [hW2]; exact hcb
              rw [← hW2]
              clear hW2 hca hcb hB
              go_wp2_with fail
              go_quiet (fail)
              go_wp2_with fail
              go_roundw
              case rel => exact ⟨k, by omega, by go_num, hdk, hB2.trans (below_drewN (Below.refl _ _) _)⟩
              case measure => simp [intOf]
end Go.Proofs.YtmpdoikdadjneaaDoor

/- The reference's plus and minus. -/
namespace Go.Proofs.YtmpdoikdadjneaaDoor
open Go.RowKit Go.Shelf Hb Vm Ds

/-- a slice is new since w -/
def NewV (w : World) (v : Value) : Prop := ∀ a n c, v = .slice (some a) n c → w.heap.size ≤ a.block
theorem own_new {W : World} {base : Nat} {e : TypeId} {v : Value} {n : Nat} {xs : List Value} (h : W.ownsRow base e 1 v n xs) : ∀ a n' c, v = .slice (some a) n' c → base ≤ a.block := fun a n' c hv => by
  rcases h.2 with ⟨h0, _⟩ | ⟨g, cap, cur, h0, hb, _⟩
  · rw [h0] at hv; cases hv
  · rw [h0] at hv; cases hv; exact hb
/-- a slice of digits, zeros at the end allowed, of a number -/
def Ol (W : World) (v : Value) (n : Nat) : Prop := ∃ A k c os, v = .slice A k c ∧ Rd W W.heap.size A k (os.map dw) ∧ k ≤ c ∧ c ≤ maxLen ∧ Dig 10000 os ∧ val 10000 os = n ∧ k ≤ 1000000
theorem infoI' : (Tryd.prog.info? 3).map (fun i => (i.zero, i.size, i.bytes)) = some (some (.int .i64 0), 1, 8) := by kernel_rfl

theorem own_cap {W : World} {base : Nat} {e : TypeId} {A : Option Addr} {n c : Nat} {xs : List Value} (h : W.ownsRow base e 1 (.slice A n c) n xs) : n ≤ c ∧ c ≤ maxLen := by
  rcases h.2 with ⟨h0, h1⟩ | ⟨g, cap, cur, hv, _, _, h1, h2, _⟩
  · cases h0; exact ⟨by omega, Nat.zero_le _⟩
  · cases hv; exact ⟨h1, h2⟩

set_option maxRecDepth 100000 in
set_option maxHeartbeats 4000000 in
theorem plus_any (A C : Option Addr) (n c m d : Nat) (xs ys : List Nat) (hdx : Dig 10000 xs) (hdy : Dig 10000 ys) (hn : n ≤ 100000) (hm : m ≤ 100000) (w : World) (hrx : Rd w w.heap.size A n (xs.map dw)) (hry : Rd w w.heap.size C m (ys.map dw)) :
    Calls Tryd.prog 61 #[.slice A n c, .slice C m d] w fun e W' => (∃ v, e = .returned v ∧ Ol W' v (val 10000 xs + val 10000 ys)) ∧ Below w.heap.size w W' := by
  obtain ⟨i0, hi, hz0, hz1, hz2⟩ := info_parts infoI'
  have hlx : xs.length = n := by simpa using hrx.1
  have hly : ys.length = m := by simpa using hry.1
  have HLX := Lib.hid hlx
  have HLY := Lib.hid hly
  clear hlx hly
  go_enter Tryd.func61, Tryd.ntmps61
  go_wp2_with fail
  go_loopw [5, 6, 7] (fun ov cv iv W => ∃ (i cy : Nat) (os : List Nat), cv = .int .i64 cy ∧ iv = .int .i64 i ∧ i ≤ 100001 ∧ Hid (os.length = i) ∧ W.ownsRow w.heap.size 3 1 ov i (os.map dw) ∧ cy ≤ 1 ∧ Hid (i ≤ n ∨ i ≤ m ∨ (i ≤ n + 1 ∨ i ≤ m + 1) ∧ cy = 0) ∧ Hid (Dig 10000 os) ∧ Hid (val 10000 os + 10000 ^ i * cy = vpre 10000 xs i + vpre 10000 ys i) ∧ Below w.heap.size w W) (fun _ _ iv _ => 100002 - (intOf iv).toNat)
  case atStart => exact ⟨0, 0, [], rfl, rfl, by omega, rfl, World.ownsRow_nil _ _ _ _, by omega, Lib.hid (by omega), Lib.hid (Dig.nil _), Lib.hid (by simp [val_nil, vpre]), Below.refl _ _⟩
  case round =>
    obtain ⟨i, cy, os, rfl, rfl, hi1, hol, hown, hcy, hex, hdo, hval, hB⟩ := hrel
    obtain ⟨OA, oc, rfl⟩ := own_form hown
    have hsz := hB.size
    obtain ⟨a, ha⟩ : ∃ a, a = xs.getD i 0 := ⟨_, rfl⟩
    obtain ⟨b, hb⟩ : ∃ b, b = ys.getD i 0 := ⟨_, rfl⟩
    have hal : a < 10000 := by rw [ha]; exact hdx.get (by decide) i
    have hbl : b < 10000 := by rw [hb]; exact hdy.get (by decide) i
    have HA := Lib.hid ha
    have HBB := Lib.hid hb
    clear ha hb
    have HVAL : Hid (val 10000 (os ++ [(a + b + cy) % 10000]) + 10000 ^ (i + 1) * ((a + b + cy) / 10000) = vpre 10000 xs (i + 1) + vpre 10000 ys (i + 1)) := Lib.hid (by
      rw [val_snoc, hol.out, Nat.pow_succ]
      have h := carry_step 10000 (10000 ^ i) (val 10000 os) (vpre 10000 xs i + vpre 10000 ys i) (a + b) cy _ _ rfl rfl hval.out
      rw [h]
      show _ = (vpre 10000 xs i + 10000 ^ i * xs.getD i 0) + (vpre 10000 ys i + 10000 ^ i * ys.getD i 0)
      rw [← HA.out, ← HBB.out, Nat.mul_add]
      omega)
    by_cases h1 : i < n
    · have h1' : (i : Int) < (n : Int) := by omega
      have HEX : Hid (i + 1 ≤ 100001 ∧ (i + 1 ≤ n ∨ i + 1 ≤ m ∨ (i + 1 ≤ n + 1 ∨ i + 1 ≤ m + 1) ∧ (a + b + cy) / 10000 = 0)) := Lib.hid (by omega)
      go_wp2_with (fail)
      refine (at_any A n c i wr.heap.size xs (by unfold maxLen; omega) (i : Int) rfl (by unfold maxLen; omega) wr ((hrx.below hB).mono hB.size)).mono ?_
      rintro e w' ⟨rfl, rfl⟩
      rw [← HA.out]
      go_wp2_with fail
      refine (at_any C m d i wr.heap.size ys (by unfold maxLen; omega) (i : Int) rfl (by unfold maxLen; omega) wr ((hry.below hB).mono hB.size)).mono ?_
      rintro e w' ⟨rfl, rfl⟩
      rw [← HBB.out]
      go_wp2_with (at_builtin; refine wpList_append_own _ rfl _ _ 22 rfl w.heap.size 3 i0 (.int .i64 0) 1 8 Tryd.underlying22 hi hz0 hz1 hz2 rfl (by decide) (.slice OA i oc) i _ rfl (hown.alloc _) ⟨wr.heap.size, 0, none⟩ 1 1 [.int .i64 (((a : Int) + b + cy) % 10000)] rfl rfl (cell_one_new _ _ _) (by simp [Value.oneCell']) (by unfold maxLen; omega) (by omega) (by simp; omega) ?_; intro v' w2 hown' hgrow _)
      go_roundw
      case rel => exact ⟨i + 1, (a + b + cy) / 10000, os ++ [(a + b + cy) % 10000], by go_num, by go_num, HEX.out.1, Lib.hid (by rw [List.length_append, hol.out]; rfl), own_cast hown' rfl (by rw [List.map_append]; simp [dw]), by omega, Lib.hid HEX.out.2, Lib.hid (hdo.out.snoc (Nat.mod_lt _ (by decide))), Lib.hid HVAL.out, own_grown (hB.alloc (by omega) _) (hown.alloc _) hgrow (by simp; omega)⟩
      case measure => simp [intOf]; omega
    · have h1' : ¬ (i : Int) < (n : Int) := by omega
      by_cases h2 : i < m
      · have h2' : (i : Int) < (m : Int) := by omega
        have HEX : Hid (i + 1 ≤ 100001 ∧ (i + 1 ≤ n ∨ i + 1 ≤ m ∨ (i + 1 ≤ n + 1 ∨ i + 1 ≤ m + 1) ∧ (a + b + cy) / 10000 = 0)) := Lib.hid (by omega)
        go_wp2_with (fail)
        refine (at_any A n c i wr.heap.size xs (by unfold maxLen; omega) (i : Int) rfl (by unfold maxLen; omega) wr ((hrx.below hB).mono hB.size)).mono ?_
        rintro e w' ⟨rfl, rfl⟩
        rw [← HA.out]
        go_wp2_with fail
        refine (at_any C m d i wr.heap.size ys (by unfold maxLen; omega) (i : Int) rfl (by unfold maxLen; omega) wr ((hry.below hB).mono hB.size)).mono ?_
        rintro e w' ⟨rfl, rfl⟩
        rw [← HBB.out]
        go_wp2_with (at_builtin; refine wpList_append_own _ rfl _ _ 22 rfl w.heap.size 3 i0 (.int .i64 0) 1 8 Tryd.underlying22 hi hz0 hz1 hz2 rfl (by decide) (.slice OA i oc) i _ rfl (hown.alloc _) ⟨wr.heap.size, 0, none⟩ 1 1 [.int .i64 (((a : Int) + b + cy) % 10000)] rfl rfl (cell_one_new _ _ _) (by simp [Value.oneCell']) (by unfold maxLen; omega) (by omega) (by simp; omega) ?_; intro v' w2 hown' hgrow _)
        go_roundw
        case rel => exact ⟨i + 1, (a + b + cy) / 10000, os ++ [(a + b + cy) % 10000], by go_num, by go_num, HEX.out.1, Lib.hid (by rw [List.length_append, hol.out]; rfl), own_cast hown' rfl (by rw [List.map_append]; simp [dw]), by omega, Lib.hid HEX.out.2, Lib.hid (hdo.out.snoc (Nat.mod_lt _ (by decide))), Lib.hid HVAL.out, own_grown (hB.alloc (by omega) _) (hown.alloc _) hgrow (by simp; omega)⟩
        case measure => simp [intOf]; omega
      · have h2' : ¬ (i : Int) < (m : Int) := by omega
        by_cases h3 : cy = 0
        · subst h3
          have hv : Hid (val 10000 os = val 10000 xs + val 10000 ys) := Lib.hid (by
            have h := hval.out
            rw [vpre_full 10000 xs i (by rw [HLX.out]; omega), vpre_full 10000 ys i (by rw [HLY.out]; omega)] at h
            simpa using h)
          go_wp2_with fail
          go_ret
          exact ⟨⟨_, rfl, OA, i, oc, os, rfl, Rd.of_own hown, (own_cap hown).1, (own_cap hown).2, hdo.out, hv.out, by omega⟩, hB⟩
        · have h3' : (0 : Int) < (cy : Int) := by omega
          have HAB : Hid (a = 0 ∧ b = 0) := Lib.hid ⟨by rw [HA.out, List.getD_eq_getElem?_getD, List.getElem?_eq_none (by rw [HLX.out]; omega)]; rfl, by rw [HBB.out, List.getD_eq_getElem?_getD, List.getElem?_eq_none (by rw [HLY.out]; omega)]; rfl⟩
          have HEX : Hid (i + 1 ≤ 100001 ∧ (i + 1 ≤ n ∨ i + 1 ≤ m ∨ (i + 1 ≤ n + 1 ∨ i + 1 ≤ m + 1) ∧ (a + b + cy) / 10000 = 0)) := Lib.hid (by have := hex.out; have := HAB.out; omega)
          go_wp2_with (fail)
          refine (at_any A n c i wr.heap.size xs (by unfold maxLen; omega) (i : Int) rfl (by unfold maxLen; omega) wr ((hrx.below hB).mono hB.size)).mono ?_
          rintro e w' ⟨rfl, rfl⟩
          rw [← HA.out]
          go_wp2_with fail
          refine (at_any C m d i wr.heap.size ys (by unfold maxLen; omega) (i : Int) rfl (by unfold maxLen; omega) wr ((hry.below hB).mono hB.size)).mono ?_
          rintro e w' ⟨rfl, rfl⟩
          rw [← HBB.out]
          go_wp2_with (at_builtin; refine wpList_append_own _ rfl _ _ 22 rfl w.heap.size 3 i0 (.int .i64 0) 1 8 Tryd.underlying22 hi hz0 hz1 hz2 rfl (by decide) (.slice OA i oc) i _ rfl (hown.alloc _) ⟨wr.heap.size, 0, none⟩ 1 1 [.int .i64 (((a : Int) + b + cy) % 10000)] rfl rfl (cell_one_new _ _ _) (by simp [Value.oneCell']) (by unfold maxLen; omega) (by omega) (by simp; omega) ?_; intro v' w2 hown' hgrow _)
          go_roundw
          case rel => exact ⟨i + 1, (a + b + cy) / 10000, os ++ [(a + b + cy) % 10000], by go_num, by go_num, HEX.out.1, Lib.hid (by rw [List.length_append, hol.out]; rfl), own_cast hown' rfl (by rw [List.map_append]; simp [dw]), by omega, Lib.hid HEX.out.2, Lib.hid (hdo.out.snoc (Nat.mod_lt _ (by decide))), Lib.hid HVAL.out, own_grown (hB.alloc (by omega) _) (hown.alloc _) hgrow (by simp; omega)⟩
          case measure => simp [intOf]; omega

set_option maxRecDepth 100000 in
set_option maxHeartbeats 4000000 in
theorem minus_any (A C : Option Addr) (n c m d : Nat) (xs ys : List Nat) (hdx : Dig 10000 xs) (hdy : Dig 10000 ys) (hn : n ≤ 100000) (hmn : m ≤ n) (hle : val 10000 ys ≤ val 10000 xs) (w : World) (hrx : Rd w w.heap.size A n (xs.map dw)) (hry : Rd w w.heap.size C m (ys.map dw)) :
    Calls Tryd.prog 63 #[.slice A n c, .slice C m d] w fun e W' => (∃ v, e = .returned v ∧ Ol W' v (val 10000 xs - val 10000 ys) ∧ NewV w v) ∧ Below w.heap.size w W' := by
  obtain ⟨i0, hi, hz0, hz1, hz2⟩ := info_parts infoI'
  have hlx : xs.length = n := by simpa using hrx.1
  have hly : ys.length = m := by simpa using hry.1
  have HLX := Lib.hid hlx
  have HLY := Lib.hid hly
  have HLE := Lib.hid hle
  clear hlx hly hle
  go_enter Tryd.func63, Tryd.ntmps63
  go_wp2_with fail
  go_loopw [5, 6, 7] (fun ov cv iv W => ∃ (i bw : Nat) (os : List Nat), cv = .int .i64 bw ∧ iv = .int .i64 i ∧ i ≤ n ∧ Hid (os.length = i) ∧ W.ownsRow w.heap.size 3 1 ov i (os.map dw) ∧ bw ≤ 1 ∧ Hid (Dig 10000 os) ∧ Hid (vpre 10000 xs i + 10000 ^ i * bw = val 10000 os + vpre 10000 ys i) ∧ Below w.heap.size w W) (fun _ _ iv _ => n - (intOf iv).toNat)
  case atStart => exact ⟨0, 0, [], rfl, rfl, by omega, rfl, World.ownsRow_nil _ _ _ _, by omega, Lib.hid (Dig.nil _), Lib.hid (by simp [val_nil, vpre]), Below.refl _ _⟩
  case round =>
    obtain ⟨i, bw, os, rfl, rfl, hi1, hol, hown, hcy, hdo, hval, hB⟩ := hrel
    obtain ⟨OA, oc, rfl⟩ := own_form hown
    have hsz := hB.size
    by_cases h1 : i < n
    · have h1' : (i : Int) < (n : Int) := by omega
      obtain ⟨a, ha⟩ : ∃ a, a = xs.getD i 0 := ⟨_, rfl⟩
      obtain ⟨b, hb⟩ : ∃ b, b = ys.getD i 0 := ⟨_, rfl⟩
      have hal : a < 10000 := by rw [ha]; exact hdx.get (by decide) i
      have hbl : b < 10000 := by rw [hb]; exact hdy.get (by decide) i
      have HA := Lib.hid ha
      have HBB := Lib.hid hb
      clear ha hb
      by_cases h2 : a < b + bw
      · have h2' : (a : Int) - b - bw < 0 := by omega
        have HVAL : Hid (vpre 10000 xs (i + 1) + 10000 ^ (i + 1) * 1 = val 10000 (os ++ [a + 10000 - b - bw]) + vpre 10000 ys (i + 1)) := Lib.hid (by
          have h := borrow_step (10000 ^ i) 10000 (val 10000 os + vpre 10000 ys i) (vpre 10000 xs i) a b bw (a + 10000 - b - bw) 1 (by omega) hval.out
          show (vpre 10000 xs i + 10000 ^ i * xs.getD i 0) + 10000 ^ (i + 1) * 1 = val 10000 (os ++ [a + 10000 - b - bw]) + (vpre 10000 ys i + 10000 ^ i * ys.getD i 0)
          rw [val_snoc, hol.out, ← HA.out, ← HBB.out, Nat.pow_succ]
          omega)
        go_wp2_with (fail)
        refine (at_any A n c i wr.heap.size xs (by unfold maxLen; omega) (i : Int) rfl (by unfold maxLen; omega) wr ((hrx.below hB).mono hB.size)).mono ?_
        rintro e w' ⟨rfl, rfl⟩
        rw [← HA.out]
        go_wp2_with fail
        refine (at_any C m d i wr.heap.size ys (by unfold maxLen; omega) (i : Int) rfl (by unfold maxLen; omega) wr ((hry.below hB).mono hB.size)).mono ?_
        rintro e w' ⟨rfl, rfl⟩
        rw [← HBB.out]
        go_wp2_with (at_builtin; refine wpList_append_own _ rfl _ _ 22 rfl w.heap.size 3 i0 (.int .i64 0) 1 8 Tryd.underlying22 hi hz0 hz1 hz2 rfl (by decide) (.slice OA i oc) i _ rfl (hown.alloc _) ⟨wr.heap.size, 0, none⟩ 1 1 [.int .i64 ((a : Int) - b - bw + 10000)] rfl rfl (cell_one_new _ _ _) (by simp [Value.oneCell']) (by unfold maxLen; omega) (by omega) (by simp; omega) ?_; intro v' w2 hown' hgrow _)
        go_roundw
        case rel => exact ⟨i + 1, 1, os ++ [a + 10000 - b - bw], by go_num, by go_num, by omega, Lib.hid (by rw [List.length_append, hol.out]; rfl), own_cast hown' rfl (by rw [List.map_append]; simp [dw]; omega), by omega, Lib.hid (hdo.out.snoc (by omega)), Lib.hid (HVAL.out), own_grown (hB.alloc (by omega) _) (hown.alloc _) hgrow (by simp; omega)⟩
        case measure => simp [intOf]; omega
      · have h2' : ¬ (a : Int) - b - bw < 0 := by omega
        have HVAL : Hid (vpre 10000 xs (i + 1) + 10000 ^ (i + 1) * 0 = val 10000 (os ++ [a - b - bw]) + vpre 10000 ys (i + 1)) := Lib.hid (by
          have h := borrow_step (10000 ^ i) 10000 (val 10000 os + vpre 10000 ys i) (vpre 10000 xs i) a b bw (a - b - bw) 0 (by omega) hval.out
          show (vpre 10000 xs i + 10000 ^ i * xs.getD i 0) + 10000 ^ (i + 1) * 0 = val 10000 (os ++ [a - b - bw]) + (vpre 10000 ys i + 10000 ^ i * ys.getD i 0)
          rw [val_snoc, hol.out, ← HA.out, ← HBB.out, Nat.pow_succ]
          omega)
        go_wp2_with (fail)
        refine (at_any A n c i wr.heap.size xs (by unfold maxLen; omega) (i : Int) rfl (by unfold maxLen; omega) wr ((hrx.below hB).mono hB.size)).mono ?_
        rintro e w' ⟨rfl, rfl⟩
        rw [← HA.out]
        go_wp2_with fail
        refine (at_any C m d i wr.heap.size ys (by unfold maxLen; omega) (i : Int) rfl (by unfold maxLen; omega) wr ((hry.below hB).mono hB.size)).mono ?_
        rintro e w' ⟨rfl, rfl⟩
        rw [← HBB.out]
        go_wp2_with (at_builtin; refine wpList_append_own _ rfl _ _ 22 rfl w.heap.size 3 i0 (.int .i64 0) 1 8 Tryd.underlying22 hi hz0 hz1 hz2 rfl (by decide) (.slice OA i oc) i _ rfl (hown.alloc _) ⟨wr.heap.size, 0, none⟩ 1 1 [.int .i64 ((a : Int) - b - bw)] rfl rfl (cell_one_new _ _ _) (by simp [Value.oneCell']) (by unfold maxLen; omega) (by omega) (by simp; omega) ?_; intro v' w2 hown' hgrow _)
        go_roundw
        case rel => exact ⟨i + 1, 0, os ++ [a - b - bw], by go_num, by go_num, by omega, Lib.hid (by rw [List.length_append, hol.out]; rfl), own_cast hown' rfl (by rw [List.map_append]; simp [dw]; omega), by omega, Lib.hid (hdo.out.snoc (by omega)), Lib.hid (HVAL.out), own_grown (hB.alloc (by omega) _) (hown.alloc _) hgrow (by simp; omega)⟩
        case measure => simp [intOf]; omega
    · have h1' : ¬ (i : Int) < (n : Int) := by omega
      have hin : i = n := by omega
      have hv : Hid (val 10000 os = val 10000 xs - val 10000 ys) := Lib.hid (by
        have h := hval.out
        rw [hin] at h
        exact dif_end 10000 (by decide) n bw xs ys os hdo.out (by rw [hol.out, hin]) HLX.out (by rw [HLY.out]; exact hmn) HLE.out h)
      go_wp2_with fail
      go_ret
      exact ⟨⟨.slice OA i oc, by rw [hin]; rfl, ⟨OA, i, oc, os, rfl, Rd.of_own hown, (own_cap hown).1, (own_cap hown).2, hdo.out, hv.out, by omega⟩, own_new hown⟩, hB⟩
end Go.Proofs.YtmpdoikdadjneaaDoor

/- The reference's Neg, Compare, Add, Sub. -/
namespace Go.Proofs.YtmpdoikdadjneaaDoor
open Go.RowKit Go.Shelf Hb Vm Ds

theorem dw_map (xs : List Nat) : xs.map dw = (xs.map (fun n : Nat => (n : Int))).map (Value.int .i64) := by rw [List.map_map]; rfl
theorem Nl.but_struct {W W' : World} {B g n : Nat} {v : Value} {t : TypeId} {p : Bool} {q : Option Addr} {r s : Nat} (hr : Nl W B v n) (h : Row W g t [.bool p, .slice q r s]) (hb : But B g W W') : Nl W' B v n := by
  obtain ⟨A, c, e, h1, h2, h3⟩ := hr
  refine ⟨A, c, e, ?_, h2, h3⟩
  rw [dw_map] at h1 ⊢
  exact Rd.but_struct h1 h hb
theorem Nl.grow {W : World} {B B' n : Nat} {v : Value} (h : Nl W B v n) (hB : B ≤ B') : Nl W B' v n := h.later (Below.refl _ _) hB
theorem rd_ofN {W : World} {B n q c : Nat} {A : Option Addr} (hq : q = (ds n).length) (h : Nl W B (.slice A q c) n) : Rd W B A q ((ds n).map dw) := by
  obtain ⟨A', c', e, h1, -, -⟩ := h
  cases e
  exact h1
/-- normal of the digits of a number -/
theorem normal_n (neg : Bool) (m : Nat) (v : Value) (z : Int) (hz : z = if neg = true then -(m : Int) else (m : Int)) (w : World) (hv : Nl w w.heap.size v m) :
    Calls Tryd.prog 53 #[.bool neg, v] w fun e W' => (∃ u, e = .returned u ∧ Ni W' W'.heap.size u z) ∧ Below w.heap.size w W' := by
  obtain ⟨A, c, rfl, h1, h2, h3⟩ := hv
  exact normal_any neg A _ c (ds m) h2 h3 (ds_dig m) z (by rw [ds_val]; exact hz) w h1
/-- normal of digits with zeros at the end -/
theorem normal_o (neg : Bool) (m : Nat) (v : Value) (z : Int) (hz : z = if neg = true then -(m : Int) else (m : Int)) (w : World) (hv : Ol w v m) :
    Calls Tryd.prog 53 #[.bool neg, v] w fun e W' => (∃ u, e = .returned u ∧ Ni W' W'.heap.size u z) ∧ Below w.heap.size w W' := by
  obtain ⟨A, k, c, os, rfl, h1, h2, h3, h4, h5, -⟩ := hv
  exact normal_any neg A k c os h2 h3 h4 z (by rw [h5]; exact hz) w h1

set_option maxRecDepth 100000 in
set_option maxHeartbeats 4000000 in
theorem nneg_any (x : Int) (vx : Value) (w : World) (hvx : Ni w w.heap.size vx x) (_hlx : (ds x.natAbs).length ≤ 100000) :
    Calls Tryd.prog 36 #[vx] w fun e W' => (∃ u, e = .returned u ∧ Ni W' W'.heap.size u (-x)) ∧ Below w.heap.size w W' := by
  obtain ⟨ux, rfl, hx⟩ := hvx
  have hx' := hx
  obtain ⟨A, c, rfl, hrd, hc1, hc2⟩ := hx'
  unfold intV
  obtain ⟨n, hn⟩ : ∃ n, n = (ds x.natAbs).length := ⟨_, rfl⟩
  obtain ⟨s, hs⟩ : ∃ s, s = decide (x < 0) := ⟨_, rfl⟩
  rw [← hn] at hx hrd hc1 ⊢
  rw [← hs]
  have HS := Lib.hid hs
  have HN := Lib.hid hn
  clear hn hs
  go_enter Tryd.func36, Tryd.ntmps36
  have b1 := Row.new w 25 [.bool s, .slice A n c]
  have b2 := Row.new2 w (.cells #[.bool s, .slice A n c] 25) 25 (.bool false) (.slice none 0 0)
  have bw : Below w.heap.size w ((w.alloc (.cells #[.bool s, .slice A n c] 25)).alloc (.cells #[.bool false, .slice none 0 0] 25)) := ((Below.refl _ w).alloc (Nat.le_refl _) _).alloc (by simp) _
  have hz2 : (-x) = if (!s) = true then -((x.natAbs : Nat) : Int) else ((x.natAbs : Nat) : Int) := by
    have h := HS.out
    by_cases hx0 : x < 0
    · rw [decide_eq_true hx0] at h; rw [h, if_neg (by decide)]; omega
    · rw [decide_eq_false hx0] at h; rw [h, if_pos (by decide)]; omega
  obtain ⟨nx, hnx⟩ : ∃ nx, nx = -x := ⟨_, rfl⟩
  rw [← hnx] at hz2 ⊢
  have HZ := Lib.hid hz2
  clear hz2 hnx
  go_wp2_with fail
  refine (normal_n (!s) x.natAbs _ nx HZ.out _ (hx.later bw (by simp; omega))).mono ?_
  rintro e W1 ⟨⟨u, rfl, hu⟩, hB⟩
  obtain ⟨u, rfl, hu⟩ := hu
  have hu' := hu
  obtain ⟨A1, c1, rfl, -, -, -⟩ := hu'
  unfold intV
  have row := b2.below hB (by simp)
  have low := bw.trans (hB.mono (by simp; omega))
  clear b1 b2 bw hB
  have k0 := row.cell 0 _ rfl
  have k1 := row.cell 1 _ rfl
  have f0 := row.frozen 0
  have f1 := row.frozen 1
  obtain ⟨ng, hng⟩ : ∃ ng, ng = (ds nx.natAbs).length := ⟨_, rfl⟩
  obtain ⟨sg, hsg⟩ : ∃ sg, sg = decide (nx < 0) := ⟨_, rfl⟩
  rw [← hng] at hu ⊢
  rw [← hsg]
  have HSG := Lib.hid hsg
  clear hng hsg
  go_wp2_with fail
  have bt : But W1.heap.size (w.heap.size + 1) W1 ((W1.setCell ⟨w.heap.size + 1, 0, none⟩ (.bool sg)).setCell ⟨w.heap.size + 1, 1, none⟩ (.slice A1 ng c1)) := (But.setCell _ _ _ _ _).trans (But.setCell _ _ _ _ _)
  exact bodyPost_ret (res_row rfl rfl (row.set2 _ _) Tryd.underlying25 rfl sizeN) rfl ⟨⟨_, rfl, .slice A1 ng c1, (by rw [HSG.out]; rfl), (hu.but_struct row bt).grow bt.size⟩, low.trans (bt.low.mono (by omega))⟩
end Go.Proofs.YtmpdoikdadjneaaDoor

/- The reference's Compare. -/
namespace Go.Proofs.YtmpdoikdadjneaaDoor
open Go.RowKit Go.Shelf Hb Vm Ds

theorem compared_n (v u : Value) (x y : Nat) (w : World) (hv : Nl w w.heap.size v x) (hu : Nl w w.heap.size u y) (hx : (ds x).length ≤ 1000000) (hy : (ds y).length ≤ 1000000) :
    Calls Tryd.prog 62 #[v, u] w fun e W' => e = .returned (.int .i64 (cmpI (x : Int) (y : Int))) ∧ Below w.heap.size w W' := by
  obtain ⟨A, c, rfl, h1, h2, h3⟩ := hv
  obtain ⟨C, d, rfl, k1, k2, k3⟩ := hu
  exact compared_any A C _ c _ d x y rfl rfl hx hy w h1 k1
theorem plus_n (v u : Value) (x y : Nat) (w : World) (hv : Nl w w.heap.size v x) (hu : Nl w w.heap.size u y) (hx : (ds x).length ≤ 100000) (hy : (ds y).length ≤ 100000) :
    Calls Tryd.prog 61 #[v, u] w fun e W' => (∃ r, e = .returned r ∧ Ol W' r (x + y)) ∧ Below w.heap.size w W' := by
  obtain ⟨A, c, rfl, h1, h2, h3⟩ := hv
  obtain ⟨C, d, rfl, k1, k2, k3⟩ := hu
  have h := plus_any A C _ c _ d (ds x) (ds y) (ds_dig x) (ds_dig y) hx hy w h1 k1
  rwa [ds_val, ds_val] at h
theorem minus_f (v u : Value) (x y : Nat) (w : World) (hv : Nl w w.heap.size v x) (hu : Nl w w.heap.size u y) (hle : y ≤ x) (hx : (ds x).length ≤ 100000) :
    Calls Tryd.prog 63 #[v, u] w fun e W' => (∃ r, e = .returned r ∧ Ol W' r (x - y) ∧ NewV w r) ∧ Below w.heap.size w W' := by
  obtain ⟨A, c, rfl, h1, h2, h3⟩ := hv
  obtain ⟨C, d, rfl, k1, k2, k3⟩ := hu
  have hl : (ds y).length ≤ (ds x).length := by
    rcases Nat.lt_or_ge (ds x).length (ds y).length with h | h
    · have := ds_len h; omega
    · exact h
  have h := minus_any A C _ c _ d (ds x) (ds y) (ds_dig x) (ds_dig y) hx hl (by rw [ds_val, ds_val]; exact hle) w h1 k1
  rwa [ds_val, ds_val] at h

theorem minus_n (v u : Value) (x y : Nat) (w : World) (hv : Nl w w.heap.size v x) (hu : Nl w w.heap.size u y) (hle : y ≤ x) (hx : (ds x).length ≤ 100000) :
    Calls Tryd.prog 63 #[v, u] w fun e W' => (∃ r, e = .returned r ∧ Ol W' r (x - y)) ∧ Below w.heap.size w W' :=
  (minus_f v u x y w hv hu hle hx).mono fun _ _ ⟨⟨r, he, h, _⟩, hb⟩ => ⟨⟨r, he, h⟩, hb⟩

set_option maxRecDepth 100000 in
set_option maxHeartbeats 4000000 in
theorem ncompare_any (x y : Int) (vx vy : Value) (w : World) (hvx : Ni w w.heap.size vx x) (hvy : Ni w w.heap.size vy y) (hlx : (ds x.natAbs).length ≤ 100000) (hly : (ds y.natAbs).length ≤ 100000) :
    Calls Tryd.prog 38 #[vx, vy] w fun e W' => e = .returned (.int .i64 (cmpI x y)) ∧ Below w.heap.size w W' := by
  obtain ⟨ux, rfl, hx⟩ := hvx
  obtain ⟨uy, rfl, hy⟩ := hvy
  have hx' := hx
  have hy' := hy
  obtain ⟨A, c, rfl, -, -, -⟩ := hx'
  obtain ⟨C, d, rfl, -, -, -⟩ := hy'
  unfold intV
  obtain ⟨n, hn⟩ : ∃ n, n = (ds x.natAbs).length := ⟨_, rfl⟩
  obtain ⟨m, hm⟩ : ∃ m, m = (ds y.natAbs).length := ⟨_, rfl⟩
  obtain ⟨s, hs⟩ : ∃ s, s = decide (x < 0) := ⟨_, rfl⟩
  obtain ⟨t, ht⟩ : ∃ t, t = decide (y < 0) := ⟨_, rfl⟩
  obtain ⟨r, hr⟩ : ∃ r, r = cmpI x y := ⟨_, rfl⟩
  rw [← hr]
  rw [← hn] at hx ⊢
  rw [← hm] at hy ⊢
  rw [← hs, ← ht]
  have HLX := Lib.hid hlx
  have HLY := Lib.hid hly
  have HR := Lib.hid hr
  have b1 := (Row.new w 25 [.bool s, .slice A n c]).alloc (.cells #[.bool t, .slice C m d] 25)
  have b2 := Row.new2 w (.cells #[.bool s, .slice A n c] 25) 25 (.bool t) (.slice C m d)
  have bw : Below w.heap.size w ((w.alloc (.cells #[.bool s, .slice A n c] 25)).alloc (.cells #[.bool t, .slice C m d] 25)) := ((Below.refl _ w).alloc (Nat.le_refl _) _).alloc (by simp) _
  clear hn hm hlx hly
  cases s with
  | true =>
    have hx0 : x < 0 := of_decide_eq_true hs.symm
    cases t with
    | true =>
      have hy0 : y < 0 := of_decide_eq_true ht.symm
      have hc : Hid (cmpI (y.natAbs : Int) (x.natAbs : Int) = r) := Lib.hid (by rw [hr]; unfold cmpI; by_cases h1 : x < y <;> by_cases h2 : y < x <;> simp [h1, h2] <;> omega)
      clear hs ht hr hx0 hy0
      go_enter Tryd.func38, Tryd.ntmps38
      go_wp2_with fail
      refine (compared_n _ _ y.natAbs x.natAbs _ (hy.later bw (by simp; omega)) (hx.later bw (by simp; omega)) (by have := HLY.out; omega) (by have := HLX.out; omega)).mono ?_
      rintro e W1 ⟨rfl, hB⟩
      rw [hc.out]
      go_wp2_with fail
      go_ret
      exact ⟨rfl, bw.trans (hB.mono (by simp; omega))⟩
    | false =>
      have hy0 : ¬ y < 0 := fun h => by rw [decide_eq_true h] at ht; cases ht
      have : r = -1 := by rw [hr]; exact cmpI_lt (by omega)
      subst this
      clear hs ht hr hx0 hy0
      go_enter Tryd.func38, Tryd.ntmps38
      go_wp2_with fail
      go_ret
      exact ⟨rfl, bw⟩
  | false =>
    have hx0 : ¬ x < 0 := fun h => by rw [decide_eq_true h] at hs; cases hs
    cases t with
    | true =>
      have hy0 : y < 0 := of_decide_eq_true ht.symm
      have : r = 1 := by rw [hr]; exact cmpI_gt (by omega)
      subst this
      clear hs ht hr hx0 hy0
      go_enter Tryd.func38, Tryd.ntmps38
      go_wp2_with fail
      go_ret
      exact ⟨rfl, bw⟩
    | false =>
      have hy0 : ¬ y < 0 := fun h => by rw [decide_eq_true h] at ht; cases ht
      have hc : Hid (cmpI (x.natAbs : Int) (y.natAbs : Int) = r) := Lib.hid (by rw [hr]; unfold cmpI; by_cases h1 : x < y <;> by_cases h2 : y < x <;> simp [h1, h2] <;> omega)
      clear hs ht hr hx0 hy0
      go_enter Tryd.func38, Tryd.ntmps38
      go_wp2_with fail
      refine (compared_n _ _ x.natAbs y.natAbs _ (hx.later bw (by simp; omega)) (hy.later bw (by simp; omega)) (by have := HLX.out; omega) (by have := HLY.out; omega)).mono ?_
      rintro e W1 ⟨rfl, hB⟩
      rw [hc.out]
      go_wp2_with fail
      go_ret
      exact ⟨rfl, bw.trans (hB.mono (by simp; omega))⟩
end Go.Proofs.YtmpdoikdadjneaaDoor

/- The reference's Add. -/
namespace Go.Proofs.YtmpdoikdadjneaaDoor
open Go.RowKit Go.Shelf Hb Vm Ds Vr

theorem box3n (w : World) (a b c d : Value) : ∃ w3, w3 = ((w.alloc (.cells #[a, b] 25)).alloc (.cells #[c, d] 25)).alloc (.cells #[.bool false, .slice none 0 0] 25) ∧
    Row w3 w.heap.size 25 [a, b] ∧ Row w3 (w.heap.size + 1) 25 [c, d] ∧ Row w3 (w.heap.size + 1 + 1) 25 [.bool false, .slice none 0 0] ∧ Below w.heap.size w w3 := by
  refine ⟨_, rfl, ((Row.new w _ [a, b]).alloc _).alloc _, (Row.new2 w _ _ _ _).alloc _, ?_, (((Below.refl _ w).alloc (Nat.le_refl _) _).alloc (by simp) _).alloc (by simp; omega) _⟩
  have := Row.new2 (w.alloc (.cells #[a, b] 25)) (.cells #[c, d] 25) 25 (.bool false) (.slice none 0 0)
  rw [World.size_alloc] at this
  exact this

set_option maxRecDepth 100000 in
set_option maxHeartbeats 8000000 in
theorem nadd_any (x y : Int) (vx vy : Value) (w : World) (hvx : Ni w w.heap.size vx x) (hvy : Ni w w.heap.size vy y) (hlx : (ds x.natAbs).length ≤ 100000) (hly : (ds y.natAbs).length ≤ 100000) :
    Calls Tryd.prog 29 #[vx, vy] w fun e W' => (∃ u, e = .returned u ∧ Ni W' W'.heap.size u (x + y)) ∧ Below w.heap.size w W' := by
  obtain ⟨ux, rfl, hx⟩ := hvx
  obtain ⟨uy, rfl, hy⟩ := hvy
  have hx' := hx
  have hy' := hy
  obtain ⟨A, c, rfl, -, -, -⟩ := hx'
  obtain ⟨C, d, rfl, -, -, -⟩ := hy'
  unfold intV
  obtain ⟨n, hn⟩ : ∃ n, n = (ds x.natAbs).length := ⟨_, rfl⟩
  obtain ⟨m, hm⟩ : ∃ m, m = (ds y.natAbs).length := ⟨_, rfl⟩
  obtain ⟨s, hs⟩ : ∃ s, s = decide (x < 0) := ⟨_, rfl⟩
  obtain ⟨t, ht⟩ : ∃ t, t = decide (y < 0) := ⟨_, rfl⟩
  obtain ⟨r, hr⟩ : ∃ r, r = x + y := ⟨_, rfl⟩
  rw [← hr]
  rw [← hn] at hx ⊢
  rw [← hm] at hy ⊢
  rw [← hs, ← ht]
  have HLX := Lib.hid hlx
  have HLY := Lib.hid hly
  obtain ⟨w3, hw3, b1, b2, b3, bw⟩ := box3n w (.bool s) (.slice A n c) (.bool t) (.slice C m d)
  have k10 := b1.cell 0 _ rfl
  have k11 := b1.cell 1 _ rfl
  have k20 := b2.cell 0 _ rfl
  have k21 := b2.cell 1 _ rfl
  have hx3 := hx.later bw bw.size
  have hy3 := hy.later bw bw.size
  clear hn hm hlx hly hx hy
  by_cases hst : s = t
  · subst hst
    have hz : Hid (r = if s = true then -((x.natAbs + y.natAbs : Nat) : Int) else ((x.natAbs + y.natAbs : Nat) : Int)) := Lib.hid (by
      rw [hr]
      by_cases hx0 : x < 0
      · rw [decide_eq_true hx0] at hs; rw [hs] at ht; have := of_decide_eq_true ht.symm; rw [hs, if_pos rfl]; omega
      · rw [decide_eq_false hx0] at hs; rw [hs] at ht; have := of_decide_eq_false ht.symm; rw [hs, if_neg (by decide)]; omega)
    clear hs ht hr
    go_enter Tryd.func29, Tryd.ntmps29
    go_wp2_with fail
    rw [← hw3]
    clear hw3
    obtain ⟨S, hSd⟩ : ∃ S : World → Prop, S = fun w' => w'.cell? ⟨w.heap.size, 0, none⟩ = some (.bool s) ∧ w'.cell? ⟨w.heap.size, 1, none⟩ = some (.slice A n c) ∧ w'.cell? ⟨w.heap.size + 1, 0, none⟩ = some (.bool s) ∧ w'.cell? ⟨w.heap.size + 1, 1, none⟩ = some (.slice C m d) := ⟨_, rfl⟩
    have hSr : ∀ V, Row V (w.heap.size) 25 [.bool s, .slice A n c] → Row V (w.heap.size + 1) 25 [.bool s, .slice C m d] → S V := fun V h0 h1 => by rw [hSd]; exact ⟨h0.cell 0 _ rfl, h0.cell 1 _ rfl, h1.cell 0 _ rfl, h1.cell 1 _ rfl⟩
    have HSR := Lib.hid hSr
    refine wp_region_held (S := S) (by kernel_rfl) ?_
    change wpAnyH _ _ _ _ _ _ _ _ w3.drew
    have hS0 : S w3.drew := hSr _ b1 b2
    have c0_0 : Row w3.drew (w.heap.size) 25 [.bool s, .slice A n c] := b1
    have c1_0 : Row w3.drew (w.heap.size + 1) 25 [.bool s, .slice C m d] := b2
    have r0_0 : Row w3.drew (w.heap.size + 1 + 1) 25 [.bool false, .slice none 0 0] := b3
    have bd_0 : Below w.heap.size w w3.drew := (bw).drew
    obtain ⟨V0, hV0⟩ : ∃ V0, V0 = w3.drew := ⟨_, rfl⟩
    rw [← hV0] at hS0 c0_0 c1_0 r0_0 bd_0 ⊢
    subst hSd
    clear hSr
    have hxv : Nl V0 V0.heap.size _ _ := hx3.later (by rw [hV0]; exact (Below.refl _ _).drew) (by rw [hV0]; exact Nat.le_refl _)
    have hyv : Nl V0 V0.heap.size _ _ := hy3.later (by rw [hV0]; exact (Below.refl _ _).drew) (by rw [hV0]; exact Nat.le_refl _)
    clear hV0
    refine wpAnyH_take (i := 0) (v := .pointer (some ⟨w.heap.size, 0, none⟩)) rfl (by kernel_rfl) (by kernel_rfl) (by kernel_rfl) (fun _ _ _ h => h) (Or.inl ⟨by rfl, by intro w hSw; go_simp⟩) hS0 ?_
    refine wpAnyH_take (i := 1) (v := .bool s) rfl (by kernel_rfl) (by kernel_rfl) (by kernel_rfl) (fun _ _ _ h => h) (Or.inl ⟨by rfl, by intro w hSw; obtain ⟨q0, q1, q2, q3⟩ := hSw; go_simp⟩) hS0 ?_
    refine wpAnyH_take (i := 2) (v := .pointer (some ⟨w.heap.size, 1, none⟩)) rfl (by kernel_rfl) (by kernel_rfl) (by kernel_rfl) (fun _ _ _ h => h) (Or.inl ⟨by rfl, by intro w hSw; go_simp⟩) hS0 ?_
    dsimp only [Act.put, List.getElem_toArray, List.getElem_cons_succ, List.getElem_cons_zero, List.setIfInBounds_toArray, List.set_cons_zero, List.set_cons_succ]
    refine wpAnyH_take (i := 3) (v := .slice A n c) rfl (by kernel_rfl) (by kernel_rfl) (by kernel_rfl) (fun _ _ _ h => h) (Or.inl ⟨by rfl, by intro w hSw; obtain ⟨q0, q1, q2, q3⟩ := hSw; go_simp⟩) hS0 ?_
    refine wpAnyH_take (i := 4) (v := .pointer (some ⟨w.heap.size + 1, 1, none⟩)) rfl (by kernel_rfl) (by kernel_rfl) (by kernel_rfl) (fun _ _ _ h => h) (Or.inl ⟨by rfl, by intro w hSw; go_simp⟩) hS0 ?_
    refine wpAnyH_take (i := 5) (v := .slice C m d) rfl (by kernel_rfl) (by kernel_rfl) (by kernel_rfl) (fun _ _ _ h => h) (Or.inl ⟨by rfl, by intro w hSw; obtain ⟨q0, q1, q2, q3⟩ := hSw; go_simp⟩) hS0 ?_
    dsimp only [Act.put, List.getElem_toArray, List.getElem_cons_succ, List.getElem_cons_zero, List.setIfInBounds_toArray, List.set_cons_zero, List.set_cons_succ]
    simp only [List.setIfInBounds_toArray, List.set_cons_zero, List.set_cons_succ]
    refine one_ready (i := 6) (by kernel_rfl) rfl (fun K hK => ?_)
    go_simp
    refine (plus_n _ _ x.natAbs y.natAbs V0 (hxv) (hyv) HLX.out HLY.out).mono ?_
    rintro e U1 ⟨⟨o, rfl, ho⟩, hB1⟩
    have ho' := ho
    obtain ⟨OA, ok, oc, os, rfl, -, -, -, -, -, -⟩ := ho'
    dsimp only
    have c0_1 := c0_0.below hB1 c0_0.lt
    have c1_1 := c1_0.below hB1 c1_0.lt
    have r0_1 := r0_0.below hB1 r0_0.lt
    have bd_1 := bd_0.trans (hB1.mono bd_0.size)
    have hS1 := HSR.out U1 c0_1 c1_1
    refine hK.out _ _ hS1 (fun _ => ?_)
    clear hK K hS0 bd_0 c0_0 c1_0 r0_0 
    refine one_ready (i := 7) (by kernel_rfl) rfl (fun K hK => ?_)
    go_simp
    refine (normal_o s (x.natAbs + y.natAbs) _ r hz.out U1 ho).mono ?_
    rintro e U2 ⟨⟨u, rfl, hu⟩, hB2⟩
    obtain ⟨u, rfl, hu⟩ := hu
    have hu2 := hu
    obtain ⟨A1, c1, rfl, -, -, -⟩ := hu2
    unfold intV
    obtain ⟨ng, hng⟩ : ∃ ng, ng = (ds r.natAbs).length := ⟨_, rfl⟩
    obtain ⟨sg, hsg⟩ : ∃ sg, sg = decide (r < 0) := ⟨_, rfl⟩
    rw [← hng] at hu ⊢
    rw [← hsg]
    have HSG := Lib.hid hsg
    clear hng hsg
    dsimp only
    have c0_2 := c0_1.below hB2 c0_1.lt
    have c1_2 := c1_1.below hB2 c1_1.lt
    have r0_2 := r0_1.below hB2 r0_1.lt
    have bd_2 := bd_1.trans (hB2.mono bd_1.size)
    have hS2 := HSR.out U2 c0_2 c1_2
    refine hK.out _ _ hS2 (fun _ => ?_)
    clear hK K hS1 bd_1 c0_1 c1_1 r0_1 ho
    have cl0 := r0_2.cell 0 _ rfl
    have cl1 := r0_2.cell 1 _ rfl
    have fz0 := r0_2.frozen 0
    have fz1 := r0_2.frozen 1
    refine one_ready (i := 8) (by kernel_rfl) rfl (fun K hK => ?_)
    go_simp
    obtain ⟨Z3, hWZ⟩ : ∃ Z3, Z3 = ((U2.setCell ⟨w.heap.size + 1 + 1, 0, none⟩ (.bool sg)).setCell ⟨w.heap.size + 1 + 1, 1, none⟩ (.slice A1 ng c1)) := ⟨_, rfl⟩
    have c0_3 : Row Z3 (w.heap.size) 25 [.bool s, .slice A n c] := by rw [hWZ]; exact (c0_2.other _ _ (by omega)).other _ _ (by omega)
    have c1_3 : Row Z3 (w.heap.size + 1) 25 [.bool s, .slice C m d] := by rw [hWZ]; exact (c1_2.other _ _ (by omega)).other _ _ (by omega)
    have r0_3 : Row Z3 (w.heap.size + 1 + 1) 25 [.bool sg, .slice A1 ng c1] := by rw [hWZ]; exact r0_2.set2 _ _
    have bt3 : But U2.heap.size (w.heap.size + 1 + 1) U2 Z3 := by rw [hWZ]; exact (But.setCell _ _ _ _ _).trans (But.setCell _ _ _ _ _)
    rw [← hWZ]
    clear hWZ cl0 cl1 fz0 fz1
    refine hK.out _ _ (HSR.out Z3 c0_3 c1_3) (fun hS3 => ?_)
    clear hK K
    refine wpAnyH_done (by kernel_rfl) ?_ _
    go_wp2_with fail
    exact bodyPost_ret (res_row rfl rfl r0_3 Tryd.underlying25 rfl sizeN) rfl ⟨⟨_, rfl, .slice A1 ng c1, (by rw [HSG.out]; rfl), (hu.but_struct r0_2 bt3).grow bt3.size⟩, bd_2.trans (bt3.low.mono (by omega))⟩
  · have hsb : (s == t) = false := beq_eq_false_iff_ne.2 hst
    by_cases hlt : x.natAbs < y.natAbs
    · have hz : Hid (r = if t = true then -((y.natAbs - x.natAbs : Nat) : Int) else ((y.natAbs - x.natAbs : Nat) : Int)) := Lib.hid (by
        rw [hr]
        by_cases hx0 : x < 0
        · rw [decide_eq_true hx0] at hs
          by_cases hy0 : y < 0
          · rw [decide_eq_true hy0] at ht; exact absurd (hs.trans ht.symm) hst
          · rw [decide_eq_false hy0] at ht; rw [ht, if_neg (by decide)]; omega
        · rw [decide_eq_false hx0] at hs
          by_cases hy0 : y < 0
          · rw [decide_eq_true hy0] at ht; rw [ht, if_pos rfl]; omega
          · rw [decide_eq_false hy0] at ht; exact absurd (hs.trans ht.symm) hst)
      have hcmp : Hid (cmpI (x.natAbs : Int) (y.natAbs : Int) = -1) := Lib.hid (cmpI_lt (by omega))
      have hle : Hid (x.natAbs ≤ y.natAbs) := Lib.hid (by omega)
      clear hs ht hr hst hlt
      go_enter Tryd.func29, Tryd.ntmps29
      go_wp2_with fail
      rw [← hw3]
      clear hw3
      refine (compared_n _ _ x.natAbs y.natAbs w3 hx3 hy3 (by have := HLX.out; omega) (by have := HLY.out; omega)).mono ?_
      rintro e W1 ⟨rfl, hB⟩
      rw [hcmp.out]
      have d1 := b1.below hB b1.lt
      have d2 := b2.below hB b2.lt
      have d3 := b3.below hB b3.lt
      have bw1 := bw.trans (hB.mono bw.size)
      have hx4 := hx3.later hB hB.size
      have hy4 := hy3.later hB hB.size
      clear k10 k11 k20 k21 b1 b2 b3 bw hB hx3 hy3
      go_wp2_with fail
      obtain ⟨S, hSd⟩ : ∃ S : World → Prop, S = fun w' => w'.cell? ⟨w.heap.size, 0, none⟩ = some (.bool s) ∧ w'.cell? ⟨w.heap.size, 1, none⟩ = some (.slice A n c) ∧ w'.cell? ⟨w.heap.size + 1, 0, none⟩ = some (.bool t) ∧ w'.cell? ⟨w.heap.size + 1, 1, none⟩ = some (.slice C m d) := ⟨_, rfl⟩
      have hSr : ∀ V, Row V (w.heap.size) 25 [.bool s, .slice A n c] → Row V (w.heap.size + 1) 25 [.bool t, .slice C m d] → S V := fun V h0 h1 => by rw [hSd]; exact ⟨h0.cell 0 _ rfl, h0.cell 1 _ rfl, h1.cell 0 _ rfl, h1.cell 1 _ rfl⟩
      have HSR := Lib.hid hSr
      refine wp_region_held (S := S) (by kernel_rfl) ?_
      change wpAnyH _ _ _ _ _ _ _ _ W1.drew
      have hS0 : S W1.drew := hSr _ d1 d2
      have c0_0 : Row W1.drew (w.heap.size) 25 [.bool s, .slice A n c] := d1
      have c1_0 : Row W1.drew (w.heap.size + 1) 25 [.bool t, .slice C m d] := d2
      have r0_0 : Row W1.drew (w.heap.size + 1 + 1) 25 [.bool false, .slice none 0 0] := d3
      have bd_0 : Below w.heap.size w W1.drew := (bw1).drew
      obtain ⟨V0, hV0⟩ : ∃ V0, V0 = W1.drew := ⟨_, rfl⟩
      rw [← hV0] at hS0 c0_0 c1_0 r0_0 bd_0 ⊢
      subst hSd
      clear hSr
      have hxv : Nl V0 V0.heap.size _ _ := hx4.later (by rw [hV0]; exact (Below.refl _ _).drew) (by rw [hV0]; exact Nat.le_refl _)
      have hyv : Nl V0 V0.heap.size _ _ := hy4.later (by rw [hV0]; exact (Below.refl _ _).drew) (by rw [hV0]; exact Nat.le_refl _)
      clear hV0
      refine wpAnyH_take (i := 0) (v := .pointer (some ⟨w.heap.size + 1, 0, none⟩)) rfl (by kernel_rfl) (by kernel_rfl) (by kernel_rfl) (fun _ _ _ h => h) (Or.inl ⟨by rfl, by intro w hSw; go_simp⟩) hS0 ?_
      refine wpAnyH_take (i := 1) (v := .bool t) rfl (by kernel_rfl) (by kernel_rfl) (by kernel_rfl) (fun _ _ _ h => h) (Or.inl ⟨by rfl, by intro w hSw; obtain ⟨q0, q1, q2, q3⟩ := hSw; go_simp⟩) hS0 ?_
      refine wpAnyH_take (i := 2) (v := .pointer (some ⟨w.heap.size + 1, 1, none⟩)) rfl (by kernel_rfl) (by kernel_rfl) (by kernel_rfl) (fun _ _ _ h => h) (Or.inl ⟨by rfl, by intro w hSw; go_simp⟩) hS0 ?_
      dsimp only [Act.put, List.getElem_toArray, List.getElem_cons_succ, List.getElem_cons_zero, List.setIfInBounds_toArray, List.set_cons_zero, List.set_cons_succ]
      refine wpAnyH_take (i := 3) (v := .slice C m d) rfl (by kernel_rfl) (by kernel_rfl) (by kernel_rfl) (fun _ _ _ h => h) (Or.inl ⟨by rfl, by intro w hSw; obtain ⟨q0, q1, q2, q3⟩ := hSw; go_simp⟩) hS0 ?_
      refine wpAnyH_take (i := 4) (v := .pointer (some ⟨w.heap.size, 1, none⟩)) rfl (by kernel_rfl) (by kernel_rfl) (by kernel_rfl) (fun _ _ _ h => h) (Or.inl ⟨by rfl, by intro w hSw; go_simp⟩) hS0 ?_
      refine wpAnyH_take (i := 5) (v := .slice A n c) rfl (by kernel_rfl) (by kernel_rfl) (by kernel_rfl) (fun _ _ _ h => h) (Or.inl ⟨by rfl, by intro w hSw; obtain ⟨q0, q1, q2, q3⟩ := hSw; go_simp⟩) hS0 ?_
      dsimp only [Act.put, List.getElem_toArray, List.getElem_cons_succ, List.getElem_cons_zero, List.setIfInBounds_toArray, List.set_cons_zero, List.set_cons_succ]
      simp only [List.setIfInBounds_toArray, List.set_cons_zero, List.set_cons_succ]
      refine one_ready (i := 6) (by kernel_rfl) rfl (fun K hK => ?_)
      go_simp
      refine (minus_n _ _ y.natAbs x.natAbs V0 hyv hxv hle.out HLY.out).mono ?_
      rintro e U1 ⟨⟨o, rfl, ho⟩, hB1⟩
      have ho' := ho
      obtain ⟨OA, ok, oc, os, rfl, -, -, -, -, -, -⟩ := ho'
      dsimp only
      have c0_1 := c0_0.below hB1 c0_0.lt
      have c1_1 := c1_0.below hB1 c1_0.lt
      have r0_1 := r0_0.below hB1 r0_0.lt
      have bd_1 := bd_0.trans (hB1.mono bd_0.size)
      have hS1 := HSR.out U1 c0_1 c1_1
      refine hK.out _ _ hS1 (fun _ => ?_)
      clear hK K hS0 bd_0 c0_0 c1_0 r0_0 
      refine one_ready (i := 7) (by kernel_rfl) rfl (fun K hK => ?_)
      go_simp
      refine (normal_o t (y.natAbs - x.natAbs) _ r hz.out U1 ho).mono ?_
      rintro e U2 ⟨⟨u, rfl, hu⟩, hB2⟩
      obtain ⟨u, rfl, hu⟩ := hu
      have hu2 := hu
      obtain ⟨A1, c1, rfl, -, -, -⟩ := hu2
      unfold intV
      obtain ⟨ng, hng⟩ : ∃ ng, ng = (ds r.natAbs).length := ⟨_, rfl⟩
      obtain ⟨sg, hsg⟩ : ∃ sg, sg = decide (r < 0) := ⟨_, rfl⟩
      rw [← hng] at hu ⊢
      rw [← hsg]
      have HSG := Lib.hid hsg
      clear hng hsg
      dsimp only
      have c0_2 := c0_1.below hB2 c0_1.lt
      have c1_2 := c1_1.below hB2 c1_1.lt
      have r0_2 := r0_1.below hB2 r0_1.lt
      have bd_2 := bd_1.trans (hB2.mono bd_1.size)
      have hS2 := HSR.out U2 c0_2 c1_2
      refine hK.out _ _ hS2 (fun _ => ?_)
      clear hK K hS1 bd_1 c0_1 c1_1 r0_1 ho
      have cl0 := r0_2.cell 0 _ rfl
      have cl1 := r0_2.cell 1 _ rfl
      have fz0 := r0_2.frozen 0
      have fz1 := r0_2.frozen 1
      refine one_ready (i := 8) (by kernel_rfl) rfl (fun K hK => ?_)
      go_simp
      obtain ⟨Z3, hWZ⟩ : ∃ Z3, Z3 = ((U2.setCell ⟨w.heap.size + 1 + 1, 0, none⟩ (.bool sg)).setCell ⟨w.heap.size + 1 + 1, 1, none⟩ (.slice A1 ng c1)) := ⟨_, rfl⟩
      have c0_3 : Row Z3 (w.heap.size) 25 [.bool s, .slice A n c] := by rw [hWZ]; exact (c0_2.other _ _ (by omega)).other _ _ (by omega)
      have c1_3 : Row Z3 (w.heap.size + 1) 25 [.bool t, .slice C m d] := by rw [hWZ]; exact (c1_2.other _ _ (by omega)).other _ _ (by omega)
      have r0_3 : Row Z3 (w.heap.size + 1 + 1) 25 [.bool sg, .slice A1 ng c1] := by rw [hWZ]; exact r0_2.set2 _ _
      have bt3 : But U2.heap.size (w.heap.size + 1 + 1) U2 Z3 := by rw [hWZ]; exact (But.setCell _ _ _ _ _).trans (But.setCell _ _ _ _ _)
      rw [← hWZ]
      clear hWZ cl0 cl1 fz0 fz1
      refine hK.out _ _ (HSR.out Z3 c0_3 c1_3) (fun hS3 => ?_)
      clear hK K
      refine wpAnyH_done (by kernel_rfl) ?_ _
      go_wp2_with fail
      exact bodyPost_ret (res_row rfl rfl r0_3 Tryd.underlying25 rfl sizeN) rfl ⟨⟨_, rfl, .slice A1 ng c1, (by rw [HSG.out]; rfl), (hu.but_struct r0_2 bt3).grow bt3.size⟩, bd_2.trans (bt3.low.mono (by omega))⟩
    · have hz : Hid (r = if s = true then -((x.natAbs - y.natAbs : Nat) : Int) else ((x.natAbs - y.natAbs : Nat) : Int)) := Lib.hid (by
        rw [hr]
        by_cases hx0 : x < 0
        · rw [decide_eq_true hx0] at hs
          by_cases hy0 : y < 0
          · rw [decide_eq_true hy0] at ht; exact absurd (hs.trans ht.symm) hst
          · rw [hs, if_pos rfl]; omega
        · rw [decide_eq_false hx0] at hs
          by_cases hy0 : y < 0
          · rw [hs, if_neg (by decide)]; omega
          · rw [decide_eq_false hy0] at ht; exact absurd (hs.trans ht.symm) hst)
      have hcc := cmpI_range (x.natAbs : Int) (y.natAbs : Int)
      have hcn : ¬ cmpI (x.natAbs : Int) (y.natAbs : Int) < 0 := fun h => by have := cmpI_neg.1 h; omega
      obtain ⟨cv, hcv⟩ : ∃ cv, cv = cmpI (x.natAbs : Int) (y.natAbs : Int) := ⟨_, rfl⟩
      rw [← hcv] at hcn
      have hcmp : Hid (cmpI (x.natAbs : Int) (y.natAbs : Int) = cv) := Lib.hid hcv.symm
      have hle : Hid (y.natAbs ≤ x.natAbs) := Lib.hid (by omega)
      clear hs ht hr hst hlt hcc hcv
      go_enter Tryd.func29, Tryd.ntmps29
      go_wp2_with fail
      rw [← hw3]
      clear hw3
      refine (compared_n _ _ x.natAbs y.natAbs w3 hx3 hy3 (by have := HLX.out; omega) (by have := HLY.out; omega)).mono ?_
      rintro e W1 ⟨rfl, hB⟩
      rw [hcmp.out]
      have d1 := b1.below hB b1.lt
      have d2 := b2.below hB b2.lt
      have d3 := b3.below hB b3.lt
      have bw1 := bw.trans (hB.mono bw.size)
      have hx4 := hx3.later hB hB.size
      have hy4 := hy3.later hB hB.size
      clear k10 k11 k20 k21 b1 b2 b3 bw hB hx3 hy3
      go_wp2_with fail
      obtain ⟨S, hSd⟩ : ∃ S : World → Prop, S = fun w' => w'.cell? ⟨w.heap.size, 0, none⟩ = some (.bool s) ∧ w'.cell? ⟨w.heap.size, 1, none⟩ = some (.slice A n c) ∧ w'.cell? ⟨w.heap.size + 1, 0, none⟩ = some (.bool t) ∧ w'.cell? ⟨w.heap.size + 1, 1, none⟩ = some (.slice C m d) := ⟨_, rfl⟩
      have hSr : ∀ V, Row V (w.heap.size) 25 [.bool s, .slice A n c] → Row V (w.heap.size + 1) 25 [.bool t, .slice C m d] → S V := fun V h0 h1 => by rw [hSd]; exact ⟨h0.cell 0 _ rfl, h0.cell 1 _ rfl, h1.cell 0 _ rfl, h1.cell 1 _ rfl⟩
      have HSR := Lib.hid hSr
      refine wp_region_held (S := S) (by kernel_rfl) ?_
      change wpAnyH _ _ _ _ _ _ _ _ W1.drew
      have hS0 : S W1.drew := hSr _ d1 d2
      have c0_0 : Row W1.drew (w.heap.size) 25 [.bool s, .slice A n c] := d1
      have c1_0 : Row W1.drew (w.heap.size + 1) 25 [.bool t, .slice C m d] := d2
      have r0_0 : Row W1.drew (w.heap.size + 1 + 1) 25 [.bool false, .slice none 0 0] := d3
      have bd_0 : Below w.heap.size w W1.drew := (bw1).drew
      obtain ⟨V0, hV0⟩ : ∃ V0, V0 = W1.drew := ⟨_, rfl⟩
      rw [← hV0] at hS0 c0_0 c1_0 r0_0 bd_0 ⊢
      subst hSd
      clear hSr
      have hxv : Nl V0 V0.heap.size _ _ := hx4.later (by rw [hV0]; exact (Below.refl _ _).drew) (by rw [hV0]; exact Nat.le_refl _)
      have hyv : Nl V0 V0.heap.size _ _ := hy4.later (by rw [hV0]; exact (Below.refl _ _).drew) (by rw [hV0]; exact Nat.le_refl _)
      clear hV0
      refine wpAnyH_take (i := 0) (v := .pointer (some ⟨w.heap.size, 0, none⟩)) rfl (by kernel_rfl) (by kernel_rfl) (by kernel_rfl) (fun _ _ _ h => h) (Or.inl ⟨by rfl, by intro w hSw; go_simp⟩) hS0 ?_
      refine wpAnyH_take (i := 1) (v := .bool s) rfl (by kernel_rfl) (by kernel_rfl) (by kernel_rfl) (fun _ _ _ h => h) (Or.inl ⟨by rfl, by intro w hSw; obtain ⟨q0, q1, q2, q3⟩ := hSw; go_simp⟩) hS0 ?_
      refine wpAnyH_take (i := 2) (v := .pointer (some ⟨w.heap.size, 1, none⟩)) rfl (by kernel_rfl) (by kernel_rfl) (by kernel_rfl) (fun _ _ _ h => h) (Or.inl ⟨by rfl, by intro w hSw; go_simp⟩) hS0 ?_
      dsimp only [Act.put, List.getElem_toArray, List.getElem_cons_succ, List.getElem_cons_zero, List.setIfInBounds_toArray, List.set_cons_zero, List.set_cons_succ]
      refine wpAnyH_take (i := 3) (v := .slice A n c) rfl (by kernel_rfl) (by kernel_rfl) (by kernel_rfl) (fun _ _ _ h => h) (Or.inl ⟨by rfl, by intro w hSw; obtain ⟨q0, q1, q2, q3⟩ := hSw; go_simp⟩) hS0 ?_
      refine wpAnyH_take (i := 4) (v := .pointer (some ⟨w.heap.size + 1, 1, none⟩)) rfl (by kernel_rfl) (by kernel_rfl) (by kernel_rfl) (fun _ _ _ h => h) (Or.inl ⟨by rfl, by intro w hSw; go_simp⟩) hS0 ?_
      refine wpAnyH_take (i := 5) (v := .slice C m d) rfl (by kernel_rfl) (by kernel_rfl) (by kernel_rfl) (fun _ _ _ h => h) (Or.inl ⟨by rfl, by intro w hSw; obtain ⟨q0, q1, q2, q3⟩ := hSw; go_simp⟩) hS0 ?_
      dsimp only [Act.put, List.getElem_toArray, List.getElem_cons_succ, List.getElem_cons_zero, List.setIfInBounds_toArray, List.set_cons_zero, List.set_cons_succ]
      simp only [List.setIfInBounds_toArray, List.set_cons_zero, List.set_cons_succ]
      refine one_ready (i := 6) (by kernel_rfl) rfl (fun K hK => ?_)
      go_simp
      refine (minus_n _ _ x.natAbs y.natAbs V0 hxv hyv hle.out HLX.out).mono ?_
      rintro e U1 ⟨⟨o, rfl, ho⟩, hB1⟩
      have ho' := ho
      obtain ⟨OA, ok, oc, os, rfl, -, -, -, -, -, -⟩ := ho'
      dsimp only
      have c0_1 := c0_0.below hB1 c0_0.lt
      have c1_1 := c1_0.below hB1 c1_0.lt
      have r0_1 := r0_0.below hB1 r0_0.lt
      have bd_1 := bd_0.trans (hB1.mono bd_0.size)
      have hS1 := HSR.out U1 c0_1 c1_1
      refine hK.out _ _ hS1 (fun _ => ?_)
      clear hK K hS0 bd_0 c0_0 c1_0 r0_0 
      refine one_ready (i := 7) (by kernel_rfl) rfl (fun K hK => ?_)
      go_simp
      refine (normal_o s (x.natAbs - y.natAbs) _ r hz.out U1 ho).mono ?_
      rintro e U2 ⟨⟨u, rfl, hu⟩, hB2⟩
      obtain ⟨u, rfl, hu⟩ := hu
      have hu2 := hu
      obtain ⟨A1, c1, rfl, -, -, -⟩ := hu2
      unfold intV
      obtain ⟨ng, hng⟩ : ∃ ng, ng = (ds r.natAbs).length := ⟨_, rfl⟩
      obtain ⟨sg, hsg⟩ : ∃ sg, sg = decide (r < 0) := ⟨_, rfl⟩
      rw [← hng] at hu ⊢
      rw [← hsg]
      have HSG := Lib.hid hsg
      clear hng hsg
      dsimp only
      have c0_2 := c0_1.below hB2 c0_1.lt
      have c1_2 := c1_1.below hB2 c1_1.lt
      have r0_2 := r0_1.below hB2 r0_1.lt
      have bd_2 := bd_1.trans (hB2.mono bd_1.size)
      have hS2 := HSR.out U2 c0_2 c1_2
      refine hK.out _ _ hS2 (fun _ => ?_)
      clear hK K hS1 bd_1 c0_1 c1_1 r0_1 ho
      have cl0 := r0_2.cell 0 _ rfl
      have cl1 := r0_2.cell 1 _ rfl
      have fz0 := r0_2.frozen 0
      have fz1 := r0_2.frozen 1
      refine one_ready (i := 8) (by kernel_rfl) rfl (fun K hK => ?_)
      go_simp
      obtain ⟨Z3, hWZ⟩ : ∃ Z3, Z3 = ((U2.setCell ⟨w.heap.size + 1 + 1, 0, none⟩ (.bool sg)).setCell ⟨w.heap.size + 1 + 1, 1, none⟩ (.slice A1 ng c1)) := ⟨_, rfl⟩
      have c0_3 : Row Z3 (w.heap.size) 25 [.bool s, .slice A n c] := by rw [hWZ]; exact (c0_2.other _ _ (by omega)).other _ _ (by omega)
      have c1_3 : Row Z3 (w.heap.size + 1) 25 [.bool t, .slice C m d] := by rw [hWZ]; exact (c1_2.other _ _ (by omega)).other _ _ (by omega)
      have r0_3 : Row Z3 (w.heap.size + 1 + 1) 25 [.bool sg, .slice A1 ng c1] := by rw [hWZ]; exact r0_2.set2 _ _
      have bt3 : But U2.heap.size (w.heap.size + 1 + 1) U2 Z3 := by rw [hWZ]; exact (But.setCell _ _ _ _ _).trans (But.setCell _ _ _ _ _)
      rw [← hWZ]
      clear hWZ cl0 cl1 fz0 fz1
      refine hK.out _ _ (HSR.out Z3 c0_3 c1_3) (fun hS3 => ?_)
      clear hK K
      refine wpAnyH_done (by kernel_rfl) ?_ _
      go_wp2_with fail
      exact bodyPost_ret (res_row rfl rfl r0_3 Tryd.underlying25 rfl sizeN) rfl ⟨⟨_, rfl, .slice A1 ng c1, (by rw [HSG.out]; rfl), (hu.but_struct r0_2 bt3).grow bt3.size⟩, bd_2.trans (bt3.low.mono (by omega))⟩
end Go.Proofs.YtmpdoikdadjneaaDoor

/- The reference's Sub. -/
namespace Go.Proofs.YtmpdoikdadjneaaDoor
open Go.RowKit Go.Shelf Hb Vm Ds Vr

theorem ds_neg (y : Int) : (ds (-y).natAbs).length = (ds y.natAbs).length := by rw [Int.natAbs_neg]
set_option maxRecDepth 100000 in
set_option maxHeartbeats 8000000 in
theorem nsub_any (x y : Int) (vx vy : Value) (w : World) (hvx : Ni w w.heap.size vx x) (hvy : Ni w w.heap.size vy y) (hlx : (ds x.natAbs).length ≤ 100000) (hly : (ds y.natAbs).length ≤ 100000) :
    Calls Tryd.prog 30 #[vx, vy] w fun e W' => (∃ u, e = .returned u ∧ Ni W' W'.heap.size u (x - y)) ∧ Below w.heap.size w W' := by
  have hvx' := hvx
  have hvy' := hvy
  obtain ⟨ux, rfl, hx⟩ := hvx'
  obtain ⟨uy, rfl, hy⟩ := hvy'
  obtain ⟨A, c, rfl, -, -, -⟩ := hx
  obtain ⟨C, d, rfl, -, -, -⟩ := hy
  unfold intV at hvx hvy ⊢
  obtain ⟨n, hn⟩ : ∃ n, n = (ds x.natAbs).length := ⟨_, rfl⟩
  obtain ⟨m, hm⟩ : ∃ m, m = (ds y.natAbs).length := ⟨_, rfl⟩
  obtain ⟨s, hs⟩ : ∃ s, s = decide (x < 0) := ⟨_, rfl⟩
  obtain ⟨t, ht⟩ : ∃ t, t = decide (y < 0) := ⟨_, rfl⟩
  obtain ⟨r, hr⟩ : ∃ r, r = x - y := ⟨_, rfl⟩
  rw [← hr]
  rw [← hn, ← hs] at hvx ⊢
  rw [← hm, ← ht] at hvy ⊢
  obtain ⟨ny, hny⟩ : ∃ ny, ny = -y := ⟨_, rfl⟩
  have HNY := Lib.hid hny
  have HXY : Hid (x + ny = r) := Lib.hid (by omega)
  have HLX := Lib.hid hlx
  have HLY := Lib.hid hly
  have HLN : Hid ((ds ny.natAbs).length ≤ 100000) := Lib.hid (by rw [hny, ds_neg]; exact hly)
  obtain ⟨w3, hw3, b1, b2, b3, bw⟩ := box3n w (.bool s) (.slice A n c) (.bool t) (.slice C m d)
  clear hn hm hs ht hlx hly hr hny
  go_enter Tryd.func30, Tryd.ntmps30
  go_wp2_with fail
  rw [← hw3]
  clear hw3
  obtain ⟨S, hSd⟩ : ∃ S : World → Prop, S = fun w' => w'.cell? ⟨w.heap.size, 0, none⟩ = some (.bool s) ∧ w'.cell? ⟨w.heap.size, 1, none⟩ = some (.slice A n c) ∧ w'.cell? ⟨w.heap.size + 1, 0, none⟩ = some (.bool t) ∧ w'.cell? ⟨w.heap.size + 1, 1, none⟩ = some (.slice C m d) := ⟨_, rfl⟩
  have hSr : ∀ V, Row V (w.heap.size) 25 [.bool s, .slice A n c] → Row V (w.heap.size + 1) 25 [.bool t, .slice C m d] → S V := fun V h0 h1 => by rw [hSd]; exact ⟨h0.cell 0 _ rfl, h0.cell 1 _ rfl, h1.cell 0 _ rfl, h1.cell 1 _ rfl⟩
  have HSR := Lib.hid hSr
  refine wp_region_held (S := S) (by kernel_rfl) ?_
  change wpAnyH _ _ _ _ _ _ _ _ w3.drew
  have hS0 : S w3.drew := hSr _ b1 b2
  have c0_0 : Row w3.drew (w.heap.size) 25 [.bool s, .slice A n c] := b1
  have c1_0 : Row w3.drew (w.heap.size + 1) 25 [.bool t, .slice C m d] := b2
  have r0_0 : Row w3.drew (w.heap.size + 1 + 1) 25 [.bool false, .slice none 0 0] := b3
  have bd_0 : Below w.heap.size w w3.drew := (bw).drew
  obtain ⟨V0, hV0⟩ : ∃ V0, V0 = w3.drew := ⟨_, rfl⟩
  rw [← hV0] at hS0 c0_0 c1_0 r0_0 bd_0 ⊢
  subst hSd
  clear hSr
  clear hV0
  refine wpAnyH_take (i := 0) (v := .agg #[.bool s, .slice A n c]) rfl (by kernel_rfl) (by kernel_rfl) (by kernel_rfl) (fun _ _ _ h => h) (Or.inl ⟨by rfl, by intro w hSw; obtain ⟨q0, q1, q2, q3⟩ := hSw; go_simp⟩) hS0 ?_
  refine wpAnyH_take (i := 1) (v := .agg #[.bool t, .slice C m d]) rfl (by kernel_rfl) (by kernel_rfl) (by kernel_rfl) (fun _ _ _ h => h) (Or.inl ⟨by rfl, by intro w hSw; obtain ⟨q0, q1, q2, q3⟩ := hSw; go_simp⟩) hS0 ?_
  dsimp only [Act.put, List.getElem_toArray, List.getElem_cons_succ, List.getElem_cons_zero, List.setIfInBounds_toArray, List.set_cons_zero, List.set_cons_succ]
  simp only [List.setIfInBounds_toArray, List.set_cons_zero, List.set_cons_succ]
  refine one_ready (i := 2) (by kernel_rfl) rfl (fun K hK => ?_)
  go_simp
  refine (nneg_any y _ V0 (hvy.later bd_0 bd_0.size) HLY.out).mono ?_
  rintro e U1 ⟨⟨u, rfl, hu⟩, hB1⟩
  rw [← HNY.out] at hu
  have hu' := hu
  obtain ⟨u', rfl, hu1⟩ := hu'
  obtain ⟨A1, c1, rfl, -, -, -⟩ := hu1
  unfold intV at hu ⊢
  dsimp only
  have c0_1 := c0_0.below hB1 c0_0.lt
  have c1_1 := c1_0.below hB1 c1_0.lt
  have r0_1 := r0_0.below hB1 r0_0.lt
  have bd_1 := bd_0.trans (hB1.mono bd_0.size)
  have hS1 := HSR.out U1 c0_1 c1_1
  refine hK.out _ _ hS1 (fun _ => ?_)
  clear hK K hS0 bd_0 c0_0 c1_0 r0_0 
  refine one_ready (i := 3) (by kernel_rfl) rfl (fun K hK => ?_)
  go_simp
  refine (nadd_any x ny _ _ U1 (hvx.later bd_1 bd_1.size) hu HLX.out HLN.out).mono ?_
  rintro e U2 ⟨⟨v, rfl, hv⟩, hB2⟩
  rw [HXY.out] at hv
  obtain ⟨v, rfl, hv⟩ := hv
  have hv2 := hv
  obtain ⟨A2, c2, rfl, -, -, -⟩ := hv2
  unfold intV
  obtain ⟨ng, hng⟩ : ∃ ng, ng = (ds r.natAbs).length := ⟨_, rfl⟩
  obtain ⟨sg, hsg⟩ : ∃ sg, sg = decide (r < 0) := ⟨_, rfl⟩
  rw [← hng] at hv ⊢
  rw [← hsg]
  have HSG := Lib.hid hsg
  clear hng hsg
  dsimp only
  have c0_2 := c0_1.below hB2 c0_1.lt
  have c1_2 := c1_1.below hB2 c1_1.lt
  have r0_2 := r0_1.below hB2 r0_1.lt
  have bd_2 := bd_1.trans (hB2.mono bd_1.size)
  have hS2 := HSR.out U2 c0_2 c1_2
  refine hK.out _ _ hS2 (fun _ => ?_)
  clear hK K hS1 bd_1 c0_1 c1_1 r0_1 hu hB1
  have cl0 := r0_2.cell 0 _ rfl
  have cl1 := r0_2.cell 1 _ rfl
  have fz0 := r0_2.frozen 0
  have fz1 := r0_2.frozen 1
  refine one_ready (i := 4) (by kernel_rfl) rfl (fun K hK => ?_)
  go_simp
  obtain ⟨Z3, hWZ⟩ : ∃ Z3, Z3 = ((U2.setCell ⟨w.heap.size + 1 + 1, 0, none⟩ (.bool sg)).setCell ⟨w.heap.size + 1 + 1, 1, none⟩ (.slice A2 ng c2)) := ⟨_, rfl⟩
  have c0_3 : Row Z3 (w.heap.size) 25 [.bool s, .slice A n c] := by rw [hWZ]; exact (c0_2.other _ _ (by omega)).other _ _ (by omega)
  have c1_3 : Row Z3 (w.heap.size + 1) 25 [.bool t, .slice C m d] := by rw [hWZ]; exact (c1_2.other _ _ (by omega)).other _ _ (by omega)
  have r0_3 : Row Z3 (w.heap.size + 1 + 1) 25 [.bool sg, .slice A2 ng c2] := by rw [hWZ]; exact r0_2.set2 _ _
  have bt3 : But U2.heap.size (w.heap.size + 1 + 1) U2 Z3 := by rw [hWZ]; exact (But.setCell _ _ _ _ _).trans (But.setCell _ _ _ _ _)
  rw [← hWZ]
  clear hWZ cl0 cl1 fz0 fz1
  refine hK.out _ _ (HSR.out Z3 c0_3 c1_3) (fun hS3 => ?_)
  clear hK K
  refine wpAnyH_done (by kernel_rfl) ?_ _
  go_wp2_with fail
  exact bodyPost_ret (res_row rfl rfl r0_3 Tryd.underlying25 rfl sizeN) rfl ⟨⟨_, rfl, .slice A2 ng c2, (by rw [HSG.out]; rfl), (hv.but_struct r0_2 bt3).grow bt3.size⟩, bd_2.trans (bt3.low.mono (by omega))⟩
end Go.Proofs.YtmpdoikdadjneaaDoor
