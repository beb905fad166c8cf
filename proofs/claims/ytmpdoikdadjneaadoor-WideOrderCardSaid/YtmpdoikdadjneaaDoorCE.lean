/- A region that draws its order, inside a round of a range over a function: what holds of every order by the plain calculus holds in the round. No program is named here. -/
import Derived.OrdersIn
import Derived.OrdersHeld
import Derived.TacticsIn
import Derived.RangeFuncCalls
import Derived.Deep.RegionHeld3
import Derived.Test.YtmpdoikdadjneaaDoorCD
import Derived.Test.YtmpdoikdadjneaaDoorCVlay
import Derived.Test.YtmpdoikdadjneaaDoorCA
import Derived.Lib.ItoaNum
import Derived.Laws.Bits64b
import Derived.Lib.AtoiErrMem
import Derived.IntWalk
import Derived.StillTailTactics
import Derived.WalkMore
namespace Go.Proofs.YtmpdoikdadjneaaDoor.Vr
open Go Go.RowKit

section
variable {P : Program} {ops : Array Oper} {Q : Exit → Act → World → Prop} {md : Region.Mode} {l n : Nat}
theorem rows_wide {row : String} {args : Array Value} {w : World} {R : Value → World → Prop} (h : Rows P row args w R) : RowsIn (Fence.wide.inRound l) n P row args w R :=
  fun c cs _ => let ⟨v, w', r, s⟩ := h c cs; ⟨v, w', r, stepsIn_wide.2 s⟩
theorem wpOpIn_round (hno : ¬ LetsOut Q) {i : Nat} {K : Act → World → Prop} {a : Act} {w : World} (hdef : ∀ o, ops[i]? = some o → ∀ c, o.op ≠ .defer c) (h : wpOp P ops Q i K a w) : wpOpIn (Fence.wide.inRound l) n P ops Q i K a w := by
  unfold wpOp at h
  unfold wpOpIn
  cases ho : ops[i]? with
  | none => simpa [ho] using h
  | some o =>
    simp only [ho] at h ⊢
    split
    · rename_i hw
      simp only [hw, if_true] at h
      rcases h with h | ⟨_, h⟩
      · refine ⟨fun _ _ => trivial, ?_⟩
        unfold Oper.wp at h
        rw [Fence.inRound_round, Oper.semAt_some _ _ _ (hdef o ho)]
        generalize (execOp a.eval o).run P w = r at *
        cases r with
        | ok x w' =>
          cases x <;> first
            | exact h
            | exact ⟨(fun hd => by cases hd), CallsIn.inRound l (callsIn_wide.2 h)⟩
            | exact ⟨(fun hd => by cases hd), rows_wide h⟩
            | exact h.elim
        | halt x w' => cases x <;> exact h
      · exact absurd h hno
    · rename_i hw
      simp only [hw, Bool.false_eq_true, if_false] at h
      exact ⟨fun _ _ => trivial, h⟩
theorem wpAnyIn_round (hno : ¬ LetsOut Q) (hdef : ∀ (i : Nat) o, ops[i]? = some o → ∀ c, o.op ≠ .defer c) : ∀ (fuel : Nat) (listed : Array Bool) (a : Act) (w : World), wpAny P md ops Q fuel listed a w → wpAnyIn (Fence.wide.inRound l) n P md ops Q fuel listed a w
  | 0, _, _, _, h => h
  | fuel + 1, _, _, _, h => ⟨h.1, fun i hi => wpOpIn_mono (fun a' w' h' => wpAnyIn_round hno hdef fuel _ a' w' h') (wpOpIn_round hno (hdef i) (h.2 i hi))⟩
def noDefer (ops : Array Oper) : Bool := ops.all fun o => match o.op with | .defer _ => false | _ => true
theorem noDefer_spec (h : noDefer ops = true) (i : Nat) (o : Oper) (ho : ops[i]? = some o) (c : Call) : o.op ≠ .defer c := by
  intro e
  have h1 := Array.all_eq_true'.1 h o (Array.mem_of_getElem? ho)
  rw [e] at h1
  cases h1
theorem wpIn_region_round {id : Nat} {a : Act} {w : World} (S : World → Prop) (hm : P.follows .mixedOrders = true) (hno : ¬ LetsOut Q) (hdef : noDefer ops = true)
    (h : wpAnyH P .any ops Q S ops.size (Array.replicate ops.size false) a w.drew) : (Code.region id ops true).wpIn (Fence.wide.inRound l) n P Q a w :=
  wpIn_region_any hm (wpAnyIn_round hno (noDefer_spec hdef) _ _ _ _ (wpAny_of_held _ _ _ _ h))
/-- no operation of the region panics -/
theorem wp_region_quietpanic {S : World → Prop} {id : Nat} {a : Act} {w : World} (hm : P.follows .mixedOrders = true) (h : wpAnyH P .any ops (NoPanic Q) S ops.size (Array.replicate ops.size false) a w.drew) : (Code.region id ops true).wp P Q a w :=
  Code.wp_mono (fun e a w h => by cases e <;> first | exact h | exact h.elim) (wp_region_held hm h)
/-- one operation alone may come up -/
theorem one_ready {S : World → Prop} {i : Nat} {o : Oper} {fuel : Nat} {listed : Array Bool} {a : Act} {w : World} (hr : Region.ready md ops listed = [i]) (ho : ops[i]? = some o)
    (h : ∀ K' : Act → World → Prop, Shut (∀ a w, S w → (S w → wpAnyH P md ops Q S fuel (listed.setIfInBounds i true) a w) → K' a w) → if Region.wanted o (yielded ops a.tmps) = true then Oper.wp P o a w K' Q else K' (a.put o.dst undef) w) :
    wpAnyH P md ops Q S (fuel + 1) listed a w := wpAnyH_ready hr (by simp) (AllReadyH.cons ho h AllReadyH.nil)
end
end Go.Proofs.YtmpdoikdadjneaaDoor.Vr

/- cmp.Compare, cmp.Or; what compareWords answers. -/
namespace Go.Proofs.YtmpdoikdadjneaaDoor
open Go.RowKit Go.Shelf Hb Vm Ds

def orI (a b : Int) : Int := if a = 0 then b else a
theorem nan_i64 (x : Int) (w : World) : Calls Tryd.prog 81 #[.int .i64 x] w fun e w' => e = .returned (.bool false) ∧ w = w' := by
  have h : (x != x) = false := by simp
  go_enter Tryd.func81, Tryd.ntmps81
  go_wp2
  go_ret
  exact ⟨rfl, rfl⟩
theorem cmp_i64 (x y : Int) (w : World) : Calls Tryd.prog 68 #[.int .i64 x, .int .i64 y] w fun e w' => e = .returned (.int .i64 (cmpI x y)) ∧ w = w' := by
  have c1 := nan_i64 x w
  have c2 := nan_i64 y w
  obtain ⟨r, hr⟩ : ∃ r, r = cmpI x y := ⟨_, rfl⟩
  rw [← hr]
  unfold cmpI at hr
  by_cases h : x < y
  · rw [if_pos h] at hr
    have d1 : decide (x < y) = true := decide_eq_true h
    subst hr
    go_enter Tryd.func68, Tryd.ntmps68
    go_wp2_with fail
    refine c1.mono ?_
    rintro e W ⟨rfl, rfl⟩
    go_wp2_with fail
    refine c2.mono ?_
    rintro e W ⟨rfl, rfl⟩
    go_wp2_with fail
    go_ret
    exact ⟨rfl, rfl⟩
  · rw [if_neg h] at hr
    have d1 : decide (x < y) = false := decide_eq_false h
    by_cases h2 : y < x
    · rw [if_pos h2] at hr
      have d2 : decide (x > y) = true := decide_eq_true h2
      subst hr
      go_enter Tryd.func68, Tryd.ntmps68
      go_wp2_with fail
      refine c1.mono ?_
      rintro e W ⟨rfl, rfl⟩
      go_wp2_with fail
      refine c2.mono ?_
      rintro e W ⟨rfl, rfl⟩
      go_wp2_with fail
      go_ret
      exact ⟨rfl, rfl⟩
    · rw [if_neg h2] at hr
      have d2 : decide (x > y) = false := decide_eq_false h2
      subst hr
      go_enter Tryd.func68, Tryd.ntmps68
      go_wp2_with fail
      refine c1.mono ?_
      rintro e W ⟨rfl, rfl⟩
      go_wp2_with fail
      refine c2.mono ?_
      rintro e W ⟨rfl, rfl⟩
      go_wp2_with fail
      go_ret
      exact ⟨rfl, rfl⟩
theorem nan_u32 (x : Int) (w : World) : Calls Tryd.prog 91 #[.int .u32 x] w fun e w' => e = .returned (.bool false) ∧ w = w' := by
  have h : (x != x) = false := by simp
  go_enter Tryd.func91, Tryd.ntmps91
  go_wp2
  go_ret
  exact ⟨rfl, rfl⟩
theorem cmp_u32 (x y : Int) (w : World) : Calls Tryd.prog 76 #[.int .u32 x, .int .u32 y] w fun e w' => e = .returned (.int .i64 (cmpI x y)) ∧ w = w' := by
  have c1 := nan_u32 x w
  have c2 := nan_u32 y w
  obtain ⟨r, hr⟩ : ∃ r, r = cmpI x y := ⟨_, rfl⟩
  rw [← hr]
  unfold cmpI at hr
  by_cases h : x < y
  · rw [if_pos h] at hr
    have d1 : decide (x < y) = true := decide_eq_true h
    subst hr
    go_enter Tryd.func76, Tryd.ntmps76
    go_wp2_with fail
    refine c1.mono ?_
    rintro e W ⟨rfl, rfl⟩
    go_wp2_with fail
    refine c2.mono ?_
    rintro e W ⟨rfl, rfl⟩
    go_wp2_with fail
    go_ret
    exact ⟨rfl, rfl⟩
  · rw [if_neg h] at hr
    have d1 : decide (x < y) = false := decide_eq_false h
    by_cases h2 : y < x
    · rw [if_pos h2] at hr
      have d2 : decide (x > y) = true := decide_eq_true h2
      subst hr
      go_enter Tryd.func76, Tryd.ntmps76
      go_wp2_with fail
      refine c1.mono ?_
      rintro e W ⟨rfl, rfl⟩
      go_wp2_with fail
      refine c2.mono ?_
      rintro e W ⟨rfl, rfl⟩
      go_wp2_with fail
      go_ret
      exact ⟨rfl, rfl⟩
    · rw [if_neg h2] at hr
      have d2 : decide (x > y) = false := decide_eq_false h2
      subst hr
      go_enter Tryd.func76, Tryd.ntmps76
      go_wp2_with fail
      refine c1.mono ?_
      rintro e W ⟨rfl, rfl⟩
      go_wp2_with fail
      refine c2.mono ?_
      rintro e W ⟨rfl, rfl⟩
      go_wp2_with fail
      go_ret
      exact ⟨rfl, rfl⟩
theorem or_any (b : Nat) (x y : Int) (w : World) (h0 : w.cell? ⟨b, 0, none⟩ = some (.int .i64 x)) (h1 : w.cell? ⟨b, 1, none⟩ = some (.int .i64 y)) :
    Calls Tryd.prog 67 #[.slice (some ⟨b, 0, none⟩) 2 2] w fun e w' => e = .returned (.int .i64 (orI x y)) ∧ w = w' := by
  obtain ⟨r, hr⟩ : ∃ r, r = orI x y := ⟨_, rfl⟩
  rw [← hr]
  unfold orI at hr
  by_cases hx : x = 0
  · subst hx
    rw [if_pos rfl] at hr
    subst hr
    by_cases hy : r = 0
    · subst hy
      go_enter Tryd.func67, Tryd.ntmps67
      go_wp2
      refine wp_loop_rounds 3 ?_
      rw [rounds_succ]
      go_wp2
      rw [rounds_succ]
      go_wp2
      rw [rounds_succ]
      go_wp2
      go_ret
      exact ⟨rfl, rfl⟩
    · have d1 : (r != 0) = true := by simpa using hy
      go_enter Tryd.func67, Tryd.ntmps67
      go_wp2
      refine wp_loop_rounds 3 ?_
      rw [rounds_succ]
      go_wp2
      rw [rounds_succ]
      go_wp2
      go_ret
      exact ⟨rfl, rfl⟩
  · rw [if_neg hx] at hr
    subst hr
    have d1 : (r != 0) = true := by simpa using hx
    go_enter Tryd.func67, Tryd.ntmps67
    go_wp2
    refine wp_loop_rounds 3 ?_
    rw [rounds_succ]
    go_wp2
    go_ret
    exact ⟨rfl, rfl⟩


theorem results_cell1 {P : Program} {fn : Func} {p : Tmp} {t : TypeId} {d : TypeDesc} {a : Addr} {x : Value} (tmps : Array Value) (w : World) (h : fn.results = #[.cell p t])
    (hp : tmps.getD p undef = .pointer (some a)) (h1 : P.underlying t = some d) (k1 : (match d with | .struct _ | .array _ _ => true | _ => false) = false) (hx : w.cell? a = some x) : (results fn tmps).run P w = .ok x w := by
  have hp' : tmps[p]?.getD undef = .pointer (some a) := by simpa using hp
  simp [results, h, hp', asAddr, run_loadVar_one h1 k1 hx]
attribute [local go_sem] Oper.semAt_some
theorem cmp_len {x y : Nat} (h : (ws x).length < (ws y).length) : x < y := digs_len_lt (by decide) h
theorem cmp_eq {x y n : Nat} (_hx : (ws x).length = n) (_hy : (ws y).length = n) (h : (ws x).drop (n - n) = (ws y).drop (n - n)) : x = y := by
  rw [Nat.sub_self, List.drop_zero, List.drop_zero] at h
  rw [← ws_val x, ← ws_val y, h]
theorem cmp_lt {x y n i : Nat} (hx : (ws x).length = n) (hy : (ws y).length = n) (hi : i < n) (h : (ws x).drop (i + 1) = (ws y).drop (i + 1)) (hlt : (ws x).getD i 0 < (ws y).getD i 0) : x < y := by
  have := val_cmp_at (by decide) (ws x) (ws y) (ws_dig x) i (by omega) (by omega) h hlt
  rw [← ws_val x, ← ws_val y]
  exact this
theorem cmpI_nat (a b : Nat) : cmpI (a : Int) (b : Int) = if a < b then -1 else if b < a then 1 else 0 := by
  unfold cmpI; simp only [Int.ofNat_lt]

set_option maxRecDepth 100000 in
set_option maxHeartbeats 4000000 in
theorem cmpW_any (A C : Option Addr) (n c m d x y : Nat) (hnl : (ws x).length = n) (hml : (ws y).length = m) (hn : n ≤ 300000) (hm : m ≤ 300000) (w : World) (hrx : Rd w w.heap.size A n ((ws x).map uw)) (hry : Rd w w.heap.size C m ((ws y).map uw)) :
    Calls Tryd.prog 59 #[.slice A n c, .slice C m d] w fun e W' => e = .returned (.int .i64 (cmpI (x : Int) (y : Int))) ∧ Below w.heap.size w W' := by
  refine (callsIn_wide (n := 8)).1 ?_
  refine callsIn_of_wp_marks Tryd.func59 rfl trivial ?_ rfl
  simp only [Tryd.ntmps59, List.size_toArray, List.length_cons, List.length_nil, Nat.reduceAdd, Nat.reduceSub, Array.replicate_succ, Array.replicate_zero, List.push_toArray, List.append_toArray, List.nil_append, List.cons_append]
  have HN := Lib.hid hnl
  have HM := Lib.hid hml
  obtain ⟨w1, hw1⟩ : ∃ w1, w1 = (w.alloc (.cells #[.slice C m d] 31)).alloc (.cells #[.int .i64 0] 3) := ⟨_, rfl⟩
  have z1 : w1.heap.size = w.heap.size + 1 + 1 := by rw [hw1]; simp
  have k1 : Boxed w1 w.heap.size 31 (.slice C m d) := by rw [hw1]; exact (Boxed.new w _ _).alloc _
  have k2 : Boxed w1 (w.heap.size + 1) 3 (.int .i64 0) := by
    have := Boxed.new (w.alloc (.cells #[.slice C m d] 31)) 3 (.int .i64 0)
    rw [World.size_alloc] at this
    rw [hw1]; exact this
  have b1 : Below w.heap.size w w1 := by rw [hw1]; exact ((Below.refl _ w).alloc (Nat.le_refl _) _).alloc (by simp) _
  have cc1 := k1.cell
  have cc2 := k2.cell
  have ff2 := k2.frozen
  by_cases hne : n = m
  · subst hne
    have c0 := cmp_i64 (n : Int) (n : Int) w1
    rw [cmpI_eq rfl] at c0
    clear hnl hml
    gi_wp2_with fail
    refine ⟨trivial, ?_⟩
    rw [← hw1]
    clear hw1
    refine (callsIn_wide.2 c0).mono ?_
    rintro e W ⟨rfl, rfl⟩
    clear c0
    gi_wp2_with fail
    refine ⟨trivial, ?_⟩
    refine (back_any _ A n c w1).mono ?_
    rintro e w' ⟨rfl, rfl⟩
    have bx := Boxed.new w1 31 (.slice A n c)
    obtain ⟨w2, hw2⟩ : ∃ w2, w2 = w1.alloc (.cells #[.slice A n c] 31) := ⟨_, rfl⟩
    have bw : Below w1.heap.size w1 w2 := by rw [hw2]; exact (Below.refl _ _).alloc (Nat.le_refl _) _
    have z2 : w2.heap.size = w.heap.size + 1 + 1 + 1 := by rw [hw2]; simp [z1]
    rw [← hw2] at bx ⊢
    rw [z1] at bx bw ⊢
    have l1 := (bw.block _ (by omega)).trans k1
    have l2 := (bw.block _ (by omega)).trans k2
    have b2 := b1.trans (bw.mono (by omega))
    have hr2 := hrx.below b2
    have Z2 := Lib.hid z2
    clear hw2 bw b1 k1 k2 cc1 cc2 ff2 z1 z2
    unfold backV
    gi_wp2_with fail
    refine wpIn_rangeFunc_seq rfl (by omega) (gf := 90) (bd := #[]) (lb := #[.pointer (some ⟨w.heap.size + 1 + 1, 0, none⟩)]) rfl trivial (enters_of Tryd.func90 (by kernel_rfl) rfl)
      (encs := backE (ws x) n) (N := n) (p := w.heap.size + 1 + 1) (Kp := KeepBox w.heap.size (w.heap.size + 1 + 1)) (St := fun _ W => BackSt w.heap.size (w.heap.size + 1 + 1) A n c (ws x) W)
      (by rw [Z2.out]; omega) (back_seq 7 (by omega) w.heap.size (w.heap.size + 1 + 1) n c A (ws x) hn (by omega))
      (fun h k => ⟨h.1.trans k.1, k.2.trans h.2⟩) (fun A B h => ⟨h.mono (by rw [Z2.out]; omega), h.block _ (by rw [Z2.out]; omega)⟩) (fun k A B h1 h2 => ⟨(h2.block _ (by rw [Z2.out]; omega)).trans h1.1, h1.2.below (h2.mono (by rw [Z2.out]; omega))⟩) ⟨bx, hr2⟩ (fun _ => rfl)
      (fun k W => (Boxed W w.heap.size 31 (.slice C n d) ∧ Boxed W (w.heap.size + 1) 3 (.int .i64 0)) ∧ Below w.heap.size w W ∧ (ws x).drop (n - k) = (ws y).drop (n - k))
      (fun cd k W => cd = .ret ∧ Boxed W (w.heap.size + 1) 3 (.int .i64 (cmpI (x : Int) (y : Int))) ∧ Below w.heap.size w W)
      ?hI ?hIx ⟨⟨l1, l2⟩, b2, by rw [Nat.sub_zero, List.drop_of_length_le (by rw [HN.out]; exact Nat.le_refl _), List.drop_of_length_le (by rw [HM.out]; exact Nat.le_refl _)]⟩
      (fun k => { tmps := #[.slice A n c, .slice C n d, undef, .pointer (some ⟨w.heap.size, 0, none⟩), .pointer (some ⟨w.heap.size + 1, 0, none⟩), .int .i64 0, .int .i64 ((n - 1 - k : Nat) : Int), .int .u32 ((ws x).getD (n - 1 - k) 0 : Nat), undef, .slice A n c, .int .i64 (n : Int), .slice C n d, .int .i64 (n : Int), .int .i64 0, .int .i64 0, .bool false, undef, .slice A n c, .func (.func 90) #[] #[.pointer (some ⟨w.heap.size + 1 + 1, 0, none⟩)], .int .i64 ((n - 1 - k : Nat) : Int), .int .u32 ((ws x).getD (n - 1 - k) 0 : Nat), undef, undef, undef, undef, undef, undef, undef, undef, undef], defers := [] }) ?assign ?body ?done ?stop
    case hI =>
      rintro k A B hA ⟨⟨h1, h2⟩, h3, h4⟩ hAB
      exact ⟨⟨hAB.boxed h1 (by rw [Z2.out]; omega) (by omega), hAB.boxed h2 (by rw [Z2.out]; omega) (by omega)⟩, h3.trans (hAB.low.mono (by omega)), h4⟩
    case hIx =>
      rintro cd k A B ⟨h0, h1, h2⟩ hAB
      exact ⟨h0, (hAB.block _ (by rw [Z2.out]; omega)).trans h1, h2.trans (hAB.mono (by rw [Z2.out]; omega))⟩
    case assign =>
      intro l k W K hK
      unfold backE
      gi_wp2
      simp only [List.getD_eq_getElem?_getD] at hK
      exact hK
    case body =>
      rintro l k W hW ⟨⟨k1, k2⟩, k5, hdr⟩ - hk
      have c1 := k1.cell
      have c2 := k2.cell
      have f2 := k2.frozen
      obtain ⟨i, hi⟩ : ∃ i, i = n - 1 - k := ⟨_, rfl⟩
      have hin : i < n := by omega
      have e7 : n - (k + 1) = i := by omega
      have e8 : n - k = i + 1 := by omega
      rw [← hi]
      rw [e8] at hdr
      obtain ⟨a, ha⟩ : ∃ a, a = (ws x).getD i 0 := ⟨_, rfl⟩
      obtain ⟨b, hb⟩ : ∃ b, b = (ws y).getD i 0 := ⟨_, rfl⟩
      obtain ⟨ay, rfl, -, hcy⟩ := Rd.word (hry.below k5) hin
      rw [← hb] at hcy
      rw [← ha]
      have HA := Lib.hid ha
      have HB := Lib.hid hb
      have HDR := Lib.hid hdr
      have E7 := Lib.hid e7
      have c0 := cmp_u32 (a : Int) (b : Int) W
      clear hi ha hb hdr e7 e8
      rcases Nat.lt_trichotomy a b with hab | hab | hab
      · rw [cmpI_lt (by omega)] at c0
        have hxy : cmpI (x : Int) (y : Int) = -1 := cmpI_lt (by have := cmp_lt HN.out HM.out hin HDR.out (by rw [← HA.out, ← HB.out]; exact hab); omega)
        have HXY := Lib.hid hxy
        clear hxy hab
        gi_wp2_with (refine ⟨trivial, ?_⟩; gi_at_call 76; refine (CallsIn.inRound l (callsIn_wide.2 c0)).mono ?_; rintro e w' ⟨rfl, rfl⟩)
        refine ⟨KeepsOthers.setCell _ _ _, rfl, ?_, k5.setCell (p := ⟨w.heap.size + 1, 0, none⟩) (by show w.heap.size ≤ w.heap.size + 1; omega) _⟩
        rw [HXY.out]
        exact k2.set _
      · rw [cmpI_eq (by omega)] at c0
        have HAB := Lib.hid hab
        clear hab
        gi_wp2_with (refine ⟨trivial, ?_⟩; gi_at_call 76; refine (CallsIn.inRound l (callsIn_wide.2 c0)).mono ?_; rintro e w' ⟨rfl, rfl⟩)
        refine ⟨KeepsOthers.refl _, ⟨Below.refl _ _, rfl⟩, ⟨k1, k2⟩, k5, ?_⟩
        rw [E7.out, List.drop_eq_getElem_cons (by rw [HN.out]; exact hin), List.drop_eq_getElem_cons (l := ws y) (by rw [HM.out]; exact hin), HDR.out]
        have h1 := HA.out
        have h2 := HB.out
        rw [List.getD_eq_getElem?_getD, List.getElem?_eq_getElem (by rw [HN.out]; exact hin)] at h1
        rw [List.getD_eq_getElem?_getD, List.getElem?_eq_getElem (by rw [HM.out]; exact hin)] at h2
        have := HAB.out
        simp only [Option.getD_some] at h1 h2
        rw [← h1, ← h2, this]
      · rw [cmpI_gt (by omega)] at c0
        have hxy : cmpI (x : Int) (y : Int) = 1 := cmpI_gt (by have := cmp_lt HM.out HN.out hin HDR.out.symm (by rw [← HA.out, ← HB.out]; exact hab); omega)
        have HXY := Lib.hid hxy
        clear hxy hab
        gi_wp2_with (refine ⟨trivial, ?_⟩; gi_at_call 76; refine (CallsIn.inRound l (callsIn_wide.2 c0)).mono ?_; rintro e w' ⟨rfl, rfl⟩)
        refine ⟨KeepsOthers.setCell _ _ _, rfl, ?_, k5.setCell (p := ⟨w.heap.size + 1, 0, none⟩) (by show w.heap.size ≤ w.heap.size + 1; omega) _⟩
        rw [HXY.out]
        exact k2.set _
    case done =>
      rintro D W hD ⟨⟨k1, k2⟩, k5, hdr⟩ - hK
      have hxy : cmpI (x : Int) (y : Int) = 0 := cmpI_eq (by have := cmp_eq HN.out HM.out hdr; omega)
      have HXY := Lib.hid hxy
      have c2 := k2.cell
      have f2 := k2.frozen
      have m2 := Boxed.set (.int .i64 0) k2
      clear hxy hdr
      gi_wp2_with fail
      have hK2 := (KeepsOthers.setCell W ⟨w.heap.size + 1, 0, none⟩ (.int .i64 0)).same D _ hK rfl
      refine ⟨by simp, .inl ⟨_, _, rfl, run_takeDeferred hK2, ?_⟩⟩
      have bD : ∀ (V : World) o, Below (w.heap.size + 1 + 1) V (V.putObj D o) := fun V o => putObj_below V o (by have := Z2.out; omega)
      exact ⟨_, results_cell1 _ _ rfl rfl Tryd.underlying3 rfl (Boxed.cell (((bD _ _).block _ (by omega)).trans m2)), by rw [HXY.out], (k5.setCell (p := ⟨w.heap.size + 1, 0, none⟩) (by show w.heap.size ≤ w.heap.size + 1; omega) _).trans ((bD _ _).mono (by omega))⟩
    case stop =>
      rintro D cd k W hD hk ⟨rfl, k2, k5⟩ hK
      gi_wp2_with fail
      refine ⟨by simp, .inl ⟨_, _, rfl, run_takeDeferred hK, ?_⟩⟩
      have bD : ∀ (V : World) o, Below (w.heap.size + 1 + 1) V (V.putObj D o) := fun V o => putObj_below V o (by have := Z2.out; omega)
      exact ⟨_, results_cell1 _ _ rfl rfl Tryd.underlying3 rfl (Boxed.cell (((bD _ _).block _ (by omega)).trans k2)), rfl, k5.trans ((bD _ _).mono (by omega))⟩
  · have c0 := cmp_i64 (n : Int) (m : Int) w1
    rcases Nat.lt_or_ge n m with hlt | hge
    · have hxy : cmpI (x : Int) (y : Int) = -1 := cmpI_lt (by have := cmp_len (x := x) (y := y) (by omega); omega)
      rw [cmpI_lt (by omega)] at c0
      have HXY := Lib.hid hxy
      clear hnl hml hxy hne
      gi_wp2_with fail
      refine ⟨trivial, ?_⟩
      rw [← hw1]
      clear hw1
      refine (callsIn_wide.2 c0).mono ?_
      rintro e W ⟨rfl, rfl⟩
      gi_wp2_with fail
      exact ⟨_, results_cell1 _ _ rfl rfl Tryd.underlying3 rfl (Boxed.cell (Boxed.set _ k2)), by rw [HXY.out], b1.setCell (p := ⟨w.heap.size + 1, 0, none⟩) (by show w.heap.size ≤ w.heap.size + 1; omega) _⟩
    · have hxy : cmpI (x : Int) (y : Int) = 1 := cmpI_gt (by have := cmp_len (x := y) (y := x) (by omega); omega)
      rw [cmpI_gt (by omega)] at c0
      have HXY := Lib.hid hxy
      clear hnl hml hxy hne
      gi_wp2_with fail
      refine ⟨trivial, ?_⟩
      rw [← hw1]
      clear hw1
      refine (callsIn_wide.2 c0).mono ?_
      rintro e W ⟨rfl, rfl⟩
      gi_wp2_with fail
      exact ⟨_, results_cell1 _ _ rfl rfl Tryd.underlying3 rfl (Boxed.cell (Boxed.set _ k2)), by rw [HXY.out], b1.setCell (p := ⟨w.heap.size + 1, 0, none⟩) (by show w.heap.size ≤ w.heap.size + 1; omega) _⟩
end Go.Proofs.YtmpdoikdadjneaaDoor

/- The arithmetic of a long division by words. No program is named here. -/
namespace Go.Proofs.YtmpdoikdadjneaaDoor.Vm
open Go Go.RowKit

theorem two_pow_dvd (s : Nat) (hs : s ≤ 32) (t : Nat) (h : t * 2 ^ s < 4294967296) : (t + 1) * 2 ^ s ≤ 4294967296 := by
  have e : (4294967296 : Nat) = 2 ^ (32 - s) * 2 ^ s := by rw [← Nat.pow_add, show 32 - s + s = 32 from by omega]
  rw [e] at h ⊢
  have h1 : t < 2 ^ (32 - s) := Nat.lt_of_mul_lt_mul_right h
  exact Nat.mul_le_mul_right _ h1
/-- the first word of a number -/
theorem top_of {b n m : Nat} (hb : 1 < b) (hl : (digs b n).length = m + 1) : n = val b ((digs b n).take m) + b ^ m * (digs b n).getD m 0 ∧ val b ((digs b n).take m) < b ^ m ∧ 0 < (digs b n).getD m 0 := by
  have h1 := val_split b (digs b n) m (by omega)
  rw [val_digs b hb, val_drop_step b _ m (by omega), List.drop_of_length_le (by omega), val_nil, Nat.mul_zero, Nat.add_zero] at h1
  have h2 := val_lt (by omega) ((dig_digs b hb n).take m)
  rw [List.length_take, Nat.min_eq_left (by omega)] at h2
  refine ⟨h1, h2, ?_⟩
  have hne : digs b n ≠ [] := by intro e; rw [e] at hl; simp at hl
  have h3 := digs_last hb n hne
  rw [List.getLast_eq_getElem] at h3
  rw [List.getD_eq_getElem?_getD, List.getElem?_eq_getElem (by omega)]
  simp only [hl, Nat.add_sub_cancel] at h3
  simp only [Option.getD_some]
  omega
/-- a shift that brings the first bit of a number to the front keeps its words in number -/
theorem shiftedB (b : Nat) (hb : b = 4294967296) {y m s : Nat} (hl : (digs b y).length = m + 1) (hs : s ≤ 31) (h1 : 2147483648 ≤ (digs b y).getD m 0 * 2 ^ s) (h2 : (digs b y).getD m 0 * 2 ^ s < 4294967296) :
    (digs b (y * 2 ^ s)).length = m + 1 ∧ 2147483648 ≤ (digs b (y * 2 ^ s)).getD m 0 := by
  have hb1 : 1 < b := by omega
  obtain ⟨e, hlt, -⟩ := top_of hb1 hl
  generalize (digs b y).getD m 0 = t at *
  generalize val b ((digs b y).take m) = lo at *
  have h3 := two_pow_dvd s (by omega) t h2
  have hP : 0 < b ^ m := Nat.pow_pos (by omega)
  have g1 : y * 2 ^ s < b ^ (m + 1) := by
    have a1 : y < b ^ m * (t + 1) := by rw [e, Nat.mul_add, Nat.mul_one]; omega
    have a2 : y * 2 ^ s < b ^ m * (t + 1) * 2 ^ s := Nat.mul_lt_mul_of_pos_right a1 (Nat.pow_pos (by decide))
    have a3 : b ^ m * ((t + 1) * 2 ^ s) ≤ b ^ m * b := Nat.mul_le_mul_left _ (by omega)
    rw [← Nat.mul_assoc] at a3
    rw [Nat.pow_succ]
    omega
  have g2 : b ^ m * 2147483648 ≤ y * 2 ^ s := by
    have a1 : b ^ m * t ≤ y := by omega
    have a2 : b ^ m * t * 2 ^ s ≤ y * 2 ^ s := Nat.mul_le_mul_right _ a1
    have a3 : b ^ m * 2147483648 ≤ b ^ m * (t * 2 ^ s) := Nat.mul_le_mul_left _ h1
    rw [← Nat.mul_assoc] at a3
    omega
  have g3 := digs_len_le hb1 g1
  have g4 : m < (digs b (y * 2 ^ s)).length := by
    rcases Nat.lt_or_ge m (digs b (y * 2 ^ s)).length with h | h
    · exact h
    · exfalso
      have a1 := digs_lt hb1 (y * 2 ^ s)
      have a2 := Nat.pow_le_pow_right (show 0 < b by omega) h
      have a3 : b ^ m * 1 ≤ b ^ m * 2147483648 := Nat.mul_le_mul_left _ (by decide)
      omega
  have g5 : (digs b (y * 2 ^ s)).length = m + 1 := by omega
  refine ⟨g5, ?_⟩
  obtain ⟨e', hlt', -⟩ := top_of hb1 g5
  generalize (digs b (y * 2 ^ s)).getD m 0 = t' at *
  rcases Nat.lt_or_ge t' 2147483648 with h | h
  · exfalso
    have a1 : b ^ m * (t' + 1) ≤ b ^ m * 2147483648 := Nat.mul_le_mul_left _ h
    rw [Nat.mul_add, Nat.mul_one] at a1
    omega
  · exact h
/-- the guess is not too small -/
theorem guess_ge (b : Nat) (hb : 1 < b) (ps ys : List Nat) (k : Nat) (hp : Dig b ps) (h1 : ps.length = k + 3) (h2 : ys.length = k + 2) (hpos : 0 < ys.getD (k + 1) 0) :
    val b ps / val b ys ≤ (ps.getD (k + 2) 0 * (b * b) + (ps.getD (k + 1) 0 * b + ps.getD k 0)) / (ys.getD (k + 1) 0 * b + ys.getD k 0) := by
  have e1 := val_split b ps k (by omega)
  rw [val_drop_step b ps k (by omega), val_drop_step b ps (k + 1) (by omega), val_drop_step b ps (k + 2) (by omega), List.drop_of_length_le (by omega), val_nil] at e1
  simp only [Nat.mul_zero, Nat.add_zero] at e1
  have l1 := val_lt (by omega) (hp.take k)
  rw [List.length_take, Nat.min_eq_left (by omega)] at l1
  have e2 := val_split b ys k (by omega)
  rw [val_drop_step b ys k (by omega), val_drop_step b ys (k + 1) (by omega), List.drop_of_length_le (by omega), val_nil, Nat.mul_zero, Nat.add_zero] at e2
  generalize ps.getD (k + 2) 0 = p2 at *
  generalize ps.getD (k + 1) 0 = p1 at *
  generalize ps.getD k 0 = p0 at *
  generalize ys.getD (k + 1) 0 = y1 at *
  generalize ys.getD k 0 = y0 at *
  have e3 : p0 + b * (p1 + b * p2) = p2 * (b * b) + (p1 * b + p0) := by
    rw [Nat.mul_add, Nat.mul_comm b p1, ← Nat.mul_assoc, Nat.mul_comm (b * b) p2]; omega
  have e4 : y0 + b * y1 = y1 * b + y0 := by rw [Nat.mul_comm b y1]; omega
  rw [e3] at e1
  rw [e4] at e2
  generalize p2 * (b * b) + (p1 * b + p0) = P3 at *
  have hY2 : 0 < y1 * b + y0 := by have := Nat.mul_pos hpos (show 0 < b by omega); omega
  generalize y1 * b + y0 = Y2 at *
  generalize val b (ps.take k) = pl at *
  generalize val b (ys.take k) = yl at *
  rw [Nat.le_div_iff_mul_le hY2]
  have hB : 0 < b ^ k := Nat.pow_pos (by omega)
  generalize hq : val b ps / val b ys = q at *
  have h3 : q * val b ys ≤ val b ps := by rw [← hq]; exact Nat.div_mul_le_self _ _
  rw [e1, e2] at h3
  have h4 : q * (b ^ k * Y2) ≤ q * (yl + b ^ k * Y2) := Nat.mul_le_mul_left _ (by omega)
  have h5 : q * (b ^ k * Y2) = b ^ k * (q * Y2) := by rw [← Nat.mul_assoc, Nat.mul_comm q, Nat.mul_assoc]
  have h6 : b ^ k * (q * Y2) < b ^ k * (P3 + 1) := by rw [Nat.mul_add, Nat.mul_one]; omega
  have := Nat.lt_of_mul_lt_mul_left h6
  omega
/-- a step of the division -/
structure LongSt (b : Nat) (X Y : Nat) (t : Nat) (rs qs : List Nat) : Prop where
  lt : val b rs < Y * b ^ t
  eq : X = val b qs * Y + val b rs
  zero : ∀ j, j < t → qs.getD j 0 = 0
theorem long_part {b X Y i m n : Nat} (hb : 1 < b) {rs qs : List Nat} (h : LongSt b X Y (i + 1) rs qs) (hrl : rs.length = n) (hn : i + m + 1 ≤ n) (hY : Y < b ^ m) :
    val b rs = val b (rs.take i) + b ^ i * val b ((rs.drop i).take (m + 1)) ∧ val b ((rs.drop i).take (m + 1)) < Y * b ∧ val b (rs.drop (i + (m + 1))) = 0 := by
  have e1 := val_split b rs i (by omega)
  have e2 := val_split b (rs.drop i) (m + 1) (by simp; omega)
  rw [List.drop_drop] at e2
  have h1 := h.lt
  have hz : val b (rs.drop (i + (m + 1))) = 0 := by
    rcases Nat.eq_zero_or_pos (val b (rs.drop (i + (m + 1)))) with h0 | h0
    · exact h0
    · exfalso
      have a1 : b ^ i * b ^ (m + 1) ≤ val b rs := by
        rw [e1, e2, Nat.mul_add, ← Nat.mul_assoc]
        have : b ^ i * b ^ (m + 1) * 1 ≤ b ^ i * b ^ (m + 1) * val b (rs.drop (i + (m + 1))) := Nat.mul_le_mul_left _ h0
        omega
      have a2 : Y * b ^ (i + 1) < b ^ m * b ^ (i + 1) := Nat.mul_lt_mul_of_pos_right hY (Nat.pow_pos (by omega))
      have a3 : b ^ m * b ^ (i + 1) = b ^ i * b ^ (m + 1) := by rw [← Nat.pow_add, ← Nat.pow_add]; congr 1; omega
      omega
  rw [hz, Nat.mul_zero, Nat.add_zero] at e2
  rw [e2] at e1
  refine ⟨e1, ?_, hz⟩
  have a1 : b ^ i * val b ((rs.drop i).take (m + 1)) < b ^ i * (Y * b) := by
    have : Y * b ^ (i + 1) = b ^ i * (Y * b) := by rw [Nat.pow_succ, Nat.mul_comm (b ^ i) b, ← Nat.mul_assoc, Nat.mul_comm (Y * b)]
    omega
  exact Nat.lt_of_mul_lt_mul_left a1
theorem long_next {b X Y i m n q : Nat} (hb : 1 < b) {rs qs os : List Nat} (h : LongSt b X Y (i + 1) rs qs) (hrl : rs.length = n) (hn : i + m + 1 ≤ n) (hY : Y < b ^ m) (hql : i < qs.length) (hol : os.length = m + 1) (hd : Dig b rs)
    (hq : q = val b ((rs.drop i).take (m + 1)) / Y) (hY0 : 0 < Y) (ho : val b os = val b ((rs.drop i).take (m + 1)) - Y * q) :
    LongSt b X Y i (rs.take i ++ (os ++ rs.drop (i + (m + 1)))) (qs.set i q) := by
  obtain ⟨e1, e2, e3⟩ := long_part hb h hrl hn hY
  generalize val b ((rs.drop i).take (m + 1)) = P at *
  have hl := val_lt (by omega) (hd.take i)
  rw [List.length_take, Nat.min_eq_left (by omega)] at hl
  have hv : val b (rs.take i ++ (os ++ rs.drop (i + (m + 1)))) = val b (rs.take i) + b ^ i * (P - Y * q) := by
    rw [val_append, val_append, e3, Nat.mul_zero, Nat.add_zero, ho, List.length_take, Nat.min_eq_left (by omega)]
  have hm : P - Y * q = P % Y := by rw [hq, Nat.mod_eq_sub_mul_div]
  have hmy : P % Y < Y := Nat.mod_lt _ hY0
  have hdiv : Y * q + P % Y = P := by rw [hq]; exact Nat.div_add_mod P Y
  have hs := val_set b qs i q hql
  rw [h.zero i (by omega), Nat.mul_zero, Nat.add_zero] at hs
  refine ⟨?_, ?_, ?_⟩
  · rw [hv, hm]
    have : b ^ i * (P % Y + 1) ≤ b ^ i * Y := Nat.mul_le_mul_left _ hmy
    rw [Nat.mul_add, Nat.mul_one] at this
    rw [Nat.mul_comm Y]
    omega
  · rw [hv, hs, hm, h.eq, e1, Nat.add_mul]
    have : b ^ i * P = b ^ i * (Y * q) + b ^ i * (P % Y) := by rw [← Nat.mul_add, hdiv]
    have e5 : b ^ i * q * Y = b ^ i * (Y * q) := by rw [Nat.mul_assoc, Nat.mul_comm q]
    omega
  · intro j hj
    simp only [List.getD_eq_getElem?_getD, List.getElem?_set_ne (show i ≠ j by omega)]
    have := h.zero j (by omega)
    rwa [List.getD_eq_getElem?_getD] at this
theorem long_end {b x y s : Nat} {rs qs : List Nat} (h : LongSt b (x * 2 ^ s) (y * 2 ^ s) 0 rs qs) (hy : 0 < y) : val b qs = x / y ∧ val b rs / 2 ^ s = x % y := by
  have h1 := h.lt
  rw [Nat.pow_zero, Nat.mul_one] at h1
  have h2 := h.eq
  have hp : 0 < 2 ^ s := Nat.pow_pos (by decide)
  generalize 2 ^ s = p at *
  have e : x * p = p * x := Nat.mul_comm _ _
  have e2 : val b rs = p * (x - val b qs * y) := by
    rw [Nat.mul_sub, ← e, h2, Nat.mul_comm p (val b qs * y), Nat.mul_assoc]; omega
  have h3 : val b qs * y ≤ x := by
    have : (val b qs * y) * p ≤ x * p := by rw [h2, Nat.mul_assoc]; omega
    exact Nat.le_of_mul_le_mul_right this hp
  have h4 : x - val b qs * y < y := by
    rw [e2, Nat.mul_comm y p] at h1
    exact Nat.lt_of_mul_lt_mul_left h1
  obtain ⟨d, hd⟩ : ∃ d, d = x - val b qs * y := ⟨_, rfl⟩
  rw [← hd] at e2 h4
  have h5 : x = y * val b qs + d := by rw [Nat.mul_comm y]; omega
  clear h h1 h2 h3 e hd
  subst h5
  constructor
  · rw [Nat.mul_add_div hy, Nat.div_eq_of_lt h4, Nat.add_zero]
  · rw [e2, Nat.mul_div_cancel_left _ hp, Nat.mul_add_mod, Nat.mod_eq_of_lt h4]
theorem val_pad (b : Nat) (xs : List Nat) (m : Nat) : val b (xs ++ List.replicate m 0) = val b xs := by rw [val_append, val_zeros]; simp
theorem long_start {b x y p n k j : Nat} (hb : 1 < b) (hx : (digs b x).length = n) (hy : (digs b y).length = k + 2) (hn : n = k + 2 + j) (hp : 0 < p) (rs : List Nat) (hv : val b rs = x * p) : LongSt b (x * p) (y * p) (j + 1) rs (List.replicate (j + 1) 0) := by
  have h1 := digs_lt hb x
  rw [hx, hn] at h1
  have h2 : b ^ (k + 1) ≤ y := digs_ge hb (by omega)
  refine ⟨?_, by rw [val_zeros, hv]; simp, fun i _ => by rw [List.getD_eq_getElem?_getD, List.getElem?_replicate]; split <;> rfl⟩
  rw [hv]
  have h3 : b ^ (k + 2 + j) = b ^ (k + 1) * b ^ (j + 1) := by rw [← Nat.pow_add]; congr 1; omega
  have h4 : b ^ (k + 1) * b ^ (j + 1) ≤ y * b ^ (j + 1) := Nat.mul_le_mul_right _ h2
  have h5 : x < y * b ^ (j + 1) := by omega
  have h6 : x * p < y * b ^ (j + 1) * p := Nat.mul_lt_mul_of_pos_right h5 hp
  rw [Nat.mul_assoc, Nat.mul_comm p, ← Nat.mul_assoc]
  exact h6
end Go.Proofs.YtmpdoikdadjneaaDoor.Vm

/- math/bits at this program: LeadingZeros32, LeadingZeros64 (by the library's contracts), Div64 by a divisor with the first bit set, Div32; strconv.ParseUint at decimal digits. -/
namespace Go.Proofs.YtmpdoikdadjneaaDoor
open Go.RowKit Hb Sm

/-- all that a division by two digits begins with -/
theorem div_setup0 (hi lo y s : Nat) (hh : hi < y) (hz : s = 0) (hl : lo < 18446744073709551616) (hs : s ≤ 63) (hY1 : 9223372036854775808 ≤ y * 2 ^ s) (hY2 : y * 2 ^ s < 18446744073709551616) :
    ∃ Y U L y1 y0 v1 v0 q p : Nat, Y = y * 2 ^ s ∧ Y < 18446744073709551616 ∧ 0 < Y ∧ (y : Int) * 2 ^ s = (Y : Int) ∧
      bits .or .u64 (IntKind.u64.wrap ((hi : Int) * 2 ^ s)) ((lo : Int) / 2 ^ (64 - s)) = (U : Int) ∧ IntKind.u64.wrap ((lo : Int) * 2 ^ s) = (L : Int) ∧
      (Y : Int) / 4294967296 = (y1 : Int) ∧ bits .and .u64 (Y : Int) 4294967295 = (y0 : Int) ∧ (L : Int) / 4294967296 = (v1 : Int) ∧ bits .and .u64 (L : Int) 4294967295 = (v0 : Int) ∧
      Y = y1 * 4294967296 + y0 ∧ Dig U v1 y1 y0 ∧ (hi * 18446744073709551616 + lo) * 2 ^ s = (U * 4294967296 + v1) * 4294967296 + v0 ∧ v0 < 4294967296 ∧ U < 18446744073709551616 ∧ L < 18446744073709551616 ∧
      (U : Int).tdiv (y1 : Int) = (q : Int) ∧ (q : Int) * (y1 : Int) = (p : Int) ∧ p ≤ U ∧ q ≤ U ∧ Guess U v1 y1 y0 q (U - p) ∧ U - p < 4294967296 := by
  obtain ⟨Y, hY⟩ : ∃ Y, Y = y * 2 ^ s := ⟨_, rfl⟩
  rw [← hY] at hY1 hY2
  have hv := div_digits hi lo s hs
  have hhi : hi * 2 ^ s + 2 ^ s ≤ Y := by
    rw [hY, ← Nat.succ_mul]
    exact Nat.mul_le_mul_right _ hh
  have hor : bits .or .u64 (IntKind.u64.wrap ((hi : Int) * 2 ^ s)) ((lo : Int) / 2 ^ (64 - s)) = ((hi * 2 ^ s + lo / 2 ^ (64 - s) : Nat) : Int) := by
    subst hz
    have h1 : hi < 18446744073709551616 := by simp at hY hhi; omega
    have e1 : IntKind.u64.wrap ((hi : Int) * 2 ^ 0) = ((hi : Nat) : Int) := by rw [IntKind.wrap_u64]; simp; omega
    have e2 : (lo : Int) / 2 ^ (64 - 0) = ((0 : Nat) : Int) := by show (lo : Int) / 18446744073709551616 = 0; omega
    have e3 : lo / 2 ^ (64 - 0) = 0 := by show lo / 18446744073709551616 = 0; omega
    rw [e1, e2, e3, bits_or_u64_nat hi 0 h1 (by decide)]
    simp
  obtain ⟨U, hU⟩ : ∃ U, U = hi * 2 ^ s + lo / 2 ^ (64 - s) := ⟨_, rfl⟩
  have hUY : U < Y := by
    have hp : 2 ^ s * 2 ^ (64 - s) = 18446744073709551616 := by rw [← Nat.pow_add, show s + (64 - s) = 64 from by omega]
    have h3 : lo / 2 ^ (64 - s) < 2 ^ s := by
      rw [Nat.div_lt_iff_lt_mul (Nat.pow_pos (by decide)), hp]; exact hl
    omega
  rw [← hU] at hor hv
  have hL2 : lo * 2 ^ s % 18446744073709551616 < 18446744073709551616 := Nat.mod_lt _ (by decide)
  have f2 := wrapL (lo * 2 ^ s)
  generalize lo * 2 ^ s % 18446744073709551616 = L at *
  have hD : Dig U (L / 4294967296) (Y / 4294967296) (Y % 4294967296) := ⟨by omega, by omega, by omega, by omega, by omega⟩
  have hst := hD.start
  have hm := Nat.div_add_mod' U (Y / 4294967296)
  have hm2 := Nat.mod_lt U (show 0 < Y / 4294967296 by have := hD.h1; omega)
  have e : U % (Y / 4294967296) = U - U / (Y / 4294967296) * (Y / 4294967296) := by omega
  rw [e] at hst
  refine ⟨Y, U, L, Y / 4294967296, Y % 4294967296, L / 4294967296, L % 4294967296, U / (Y / 4294967296), U / (Y / 4294967296) * (Y / 4294967296), hY, hY2, by omega, by rw [castP, hY], hor, by rw [castP, f2],
    by omega, mask32 Y hY2, by omega, mask32 L hL2, by omega, hD, ?_, by omega, by omega, hL2, ?_, (Int.natCast_mul _ _).symm, ?_, Nat.div_le_self _ _, hst, ?_⟩
  · rw [hv]; omega
  · rw [Int.tdiv_eq_ediv_of_nonneg (by omega)]; exact (Int.natCast_ediv _ _).symm
  · omega
  · have := hD.h2; omega
theorem bitLen_bounds (x : Nat) (h0 : 0 < x) (h : x < 18446744073709551616) : 1 ≤ Lib.bitLen x ∧ Lib.bitLen x ≤ 64 ∧ 2 ^ (Lib.bitLen x - 1) ≤ x ∧ x < 2 ^ Lib.bitLen x := by
  have h1 := Lib.bitLenAux_bounds 64 x h (by omega)
  exact ⟨h1.1, Lib.bitLen_le x 64 (Nat.le_refl _) h, h1.2⟩
/-- the leading zeros as the shift that brings the highest bit to the front -/
theorem lz64 (y : Nat) (h0 : 0 < y) (h : y < 18446744073709551616) (w : World) :
    Calls Tryd.prog 103 #[.int .u64 y] w fun e w' => (∃ s : Nat, e = .returned (.int .i64 s) ∧ s ≤ 63 ∧ 9223372036854775808 ≤ y * 2 ^ s ∧ y * 2 ^ s < 18446744073709551616) ∧ w = w' :=
  (Any.bits_LeadingZeros64 Tryd.layLz64 y w (by omega) (by omega)).mono fun _ _ ⟨he, hw⟩ => by
    obtain ⟨b1, b2, b3, b4⟩ := bitLen_bounds y h0 h
    rw [Int.toNat_natCast] at he
    refine ⟨⟨64 - Lib.bitLen y, by rw [he]; congr 2; omega, by omega, ?_, ?_⟩, hw.symm⟩
    · have : 2 ^ (Lib.bitLen y - 1) * 2 ^ (64 - Lib.bitLen y) = 2 ^ 63 := by rw [← Nat.pow_add]; congr 1; omega
      have := Nat.mul_le_mul_right (2 ^ (64 - Lib.bitLen y)) b3
      omega
    · have h1 : 2 ^ Lib.bitLen y * 2 ^ (64 - Lib.bitLen y) = 2 ^ 64 := by rw [← Nat.pow_add]; congr 1; omega
      have := Nat.mul_lt_mul_of_pos_right b4 (show 0 < 2 ^ (64 - Lib.bitLen y) from Nat.pow_pos (by decide))
      omega

set_option maxRecDepth 100000 in
set_option maxHeartbeats 2000000 in
theorem div64 (hi lo y : Nat) (hh : hi < y) (hyn : 9223372036854775808 ≤ y) (hyl : y < 18446744073709551616) (hl : lo < 18446744073709551616) (w : World) :
    Calls Tryd.prog 101 #[.int .u64 hi, .int .u64 lo, .int .u64 y] w fun e w' => (∃ q r : Nat, e = .returned (.tuple #[.int .u64 q, .int .u64 r]) ∧ q = (hi * 18446744073709551616 + lo) / y ∧ r = (hi * 18446744073709551616 + lo) % y) ∧ Quiet w w' := by
  by_cases h0 : hi = 0
  · subst h0
    obtain ⟨q, hq⟩ : ∃ q, q = lo / y := ⟨_, rfl⟩
    obtain ⟨r, hr⟩ : ∃ r, r = lo % y := ⟨_, rfl⟩
    have f1 : (lo : Int) / (y : Int) = (q : Int) := by rw [hq]; simp
    have f2 : (lo : Int) % (y : Int) = (r : Int) := by rw [hr]; simp
    have HQ := Lib.hid hq
    have HR := Lib.hid hr
    clear hq hr
    go_enter Tryd.func101, Tryd.ntmps101
    go_wp2_with fail
    go_quiet (fail)
    go_wp2
    go_ret2
    have hql : q < 18446744073709551616 := by rw [HQ.out]; exact Nat.lt_of_le_of_lt (Nat.div_le_self _ _) hl
    refine ⟨⟨q, r, ?_, by rw [HQ.out]; simp, by rw [HR.out]; simp⟩, _, rfl⟩
    show Ending.returned (.tuple #[.int .u64 (IntKind.u64.wrap ↑q), .int .u64 (↑lo % ↑y)]) = _
    rw [f2, show IntKind.u64.wrap (q : Int) = (q : Int) from by rw [IntKind.wrap_u64]; omega]
  · go_enter Tryd.func101, Tryd.ntmps101
    go_wp2_with fail
    refine (lz64 y (by omega) (by omega) w).mono ?_
    rintro e W ⟨⟨s, rfl, hs, hY1, hY2⟩, rfl⟩
    have hz : s = 0 := by
      cases s with
      | zero => rfl
      | succ s =>
        have : y * 2 ^ (s + 1) = y * 2 ^ s * 2 := by rw [Nat.pow_succ, Nat.mul_assoc]
        have h2 : y * 1 ≤ y * 2 ^ s := Nat.mul_le_mul_left _ (Nat.pow_pos (by decide))
        omega
    obtain ⟨Y, U, L, y1, y0, v1, v0, q, p, hY, hY2, hY0, f1, f2, f3, f4, f5, f6, f7, hYY, hD, hV, hv0, hU, hL, f8, f9, hpU, hqU, hG, hr0⟩ := div_setup0 hi lo y s hh hz hl hs hY1 hY2
    clear hz
    have HY := Lib.hid hY
    have HYY := Lib.hid hYY
    have HD := Lib.hid hD
    have HV := Lib.hid hV
    have G0 := Lib.hid hG
    have hy1 := hD.h1
    have hy1' := hD.h2
    have hy0 := hD.h0
    have hv1 := hD.hv
    clear hY hYY hD hV hG hY1
    go_upto_block 0 with (fail)
    go_cut [15, 16] from 67 to 85 (fun qv _ wx => ∃ q : Nat, qv = .int .u64 q ∧ Hid (q = (U * 4294967296 + v1) / (y1 * 4294967296 + y0)) ∧ w = wx)
    case first =>
      go_wp2_with fail
      go_loop [15, 16] (fun qv rv => ∃ q r : Nat, qv = .int .u64 q ∧ rv = .int .u64 r ∧ r < 4294967296 ∧ Hid (Guess U v1 y1 y0 q r)) (fun qv _ => (intOf qv).toNat)
      case atStart => exact ⟨q, U - p, by go_num, by go_num, hr0, G0⟩
      case round =>
        clear G0 hr0 f8 f9 hpU hqU
        obtain ⟨q, r, rfl, rfl, hr, G⟩ := hrel
        have hqb := HD.out.guess_lt G.out
        rcases Nat.lt_or_ge q 4294967296 with hq | hq
        · obtain ⟨x, hx⟩ : ∃ x, x = q * y0 := ⟨_, rfl⟩
          have e1 : (q : Int) * (y0 : Int) = (x : Int) := by rw [hx]; exact (Int.natCast_mul _ _).symm
          have hxl : x ≤ 4294967295 * 4294967295 := by rw [hx]; exact Nat.mul_le_mul (by omega) (by omega)
          rcases Nat.lt_or_ge (4294967296 * r + v1) x with ht | ht
          · have G2 := HD.out.down G.out (.inr (by rw [← hx]; omega))
            have d1 : decide ((q : Int) ≥ 4294967296) = false := decide_eq_false (by omega)
            have d2 : decide ((x : Int) > 4294967296 * (r : Int) + (v1 : Int)) = true := decide_eq_true (by omega)
            clear hx ht hq
            have hq0 := G2.1
            have G3 := Lib.hid G2.2
            clear G G2
            obtain ⟨q', hq'⟩ : ∃ q', q' = q - 1 := ⟨_, rfl⟩
            rw [← hq'] at G3
            have m1 : (q : Int) - 1 = (q' : Int) := by omega
            have hlt : q' < q := by omega
            have hqb' : q' < 8589934594 := by omega
            clear hq'
            rcases Nat.lt_or_ge (r + y1) 4294967296 with hr' | hr'
            · have d3 : decide ((r : Int) + (y1 : Int) ≥ 4294967296) = false := decide_eq_false (by omega)
              go_wp2
              go_round
              case rel => exact ⟨q', r + y1, by go_num, by go_num, hr', G3⟩
              case measure => simp [intOf]; omega
            · have d3 : decide ((r : Int) + (y1 : Int) ≥ 4294967296) = true := decide_eq_true (by omega)
              have HE := Lib.hid (HD.out.past G3.out hr')
              clear G3 hlt hqb' hr'
              go_wp2_with fail
              go_meet
              case rel => exact ⟨q', rfl, HE, rfl⟩
          · have E := HD.out.done G.out (by rw [← hx]; omega)
            have d1 : decide ((q : Int) ≥ 4294967296) = false := decide_eq_false (by omega)
            have d2 : decide ((x : Int) > 4294967296 * (r : Int) + (v1 : Int)) = false := decide_eq_false (by omega)
            have HE := Lib.hid E
            clear hx ht hq E
            go_wp2_with fail
            go_meet
            case rel => exact ⟨q, rfl, HE, rfl⟩
        · have G2 := HD.out.down G.out (.inl hq)
          have d1 : decide ((q : Int) ≥ 4294967296) = true := decide_eq_true (by omega)
          clear hq
          have hq0 := G2.1
          have G3 := Lib.hid G2.2
          clear G G2
          obtain ⟨q', hq'⟩ : ∃ q', q' = q - 1 := ⟨_, rfl⟩
          rw [← hq'] at G3
          have m1 : (q : Int) - 1 = (q' : Int) := by omega
          have hlt : q' < q := by omega
          have hqb' : q' < 8589934594 := by omega
          clear hq'
          rcases Nat.lt_or_ge (r + y1) 4294967296 with hr' | hr'
          · have d3 : decide ((r : Int) + (y1 : Int) ≥ 4294967296) = false := decide_eq_false (by omega)
            go_wp2
            go_round
            case rel => exact ⟨q', r + y1, by go_num, by go_num, hr', G3⟩
            case measure => simp [intOf]; omega
          · have d3 : decide ((r : Int) + (y1 : Int) ≥ 4294967296) = true := decide_eq_true (by omega)
            have HE := Lib.hid (HD.out.past G3.out hr')
            clear G3 hlt hqb' hr'
            go_wp2_with fail
            go_meet
            case rel => exact ⟨q', rfl, HE, rfl⟩
    case rest =>
      clear G0 hr0 f8 f9 hpU hqU
      obtain ⟨qa, rfl, E, rfl⟩ := hcut
      rw [← HYY.out] at E
      obtain ⟨u, hu⟩ : ∃ u, u = (U * 4294967296 + v1) % Y := ⟨_, rfl⟩
      have k1 := div_rest hY2 hY0 E.out hu
      have hD2 := HD.out.next HYY.out hv0 hu
      obtain ⟨q2, p2, f8, f9, hpU, hqU, k6, hr0⟩ := hD2.first
      have hu' : u < 18446744073709551616 := by rw [hu]; exact Nat.lt_trans (Nat.mod_lt _ hY0) hY2
      have HU := Lib.hid hu
      have HD2 := Lib.hid hD2
      have G0 := Lib.hid k6
      clear hu hD2 k6
      go_upto_block 2 with (fail)
      go_cut [18, 16] from 102 to 120 (fun qv _ wx => ∃ q : Nat, qv = .int .u64 q ∧ Hid (q = (u * 4294967296 + v0) / (y1 * 4294967296 + y0)) ∧ w = wx)
      case first =>
        go_wp2_with fail
        go_loop [18, 16] (fun qv rv => ∃ q r : Nat, qv = .int .u64 q ∧ rv = .int .u64 r ∧ r < 4294967296 ∧ Hid (Guess u v0 y1 y0 q r)) (fun qv _ => (intOf qv).toNat)
        case atStart => exact ⟨q2, u - p2, by go_num, by go_num, hr0, G0⟩
        case round =>
          clear G0 hr0 f8 f9 hpU hqU
          obtain ⟨q, r, rfl, rfl, hr, G⟩ := hrel
          have hqb := HD2.out.guess_lt G.out
          rcases Nat.lt_or_ge q 4294967296 with hq | hq
          · obtain ⟨x, hx⟩ : ∃ x, x = q * y0 := ⟨_, rfl⟩
            have e1 : (q : Int) * (y0 : Int) = (x : Int) := by rw [hx]; exact (Int.natCast_mul _ _).symm
            have hxl : x ≤ 4294967295 * 4294967295 := by rw [hx]; exact Nat.mul_le_mul (by omega) (by omega)
            rcases Nat.lt_or_ge (4294967296 * r + v0) x with ht | ht
            · have G2 := HD2.out.down G.out (.inr (by rw [← hx]; omega))
              have d1 : decide ((q : Int) ≥ 4294967296) = false := decide_eq_false (by omega)
              have d2 : decide ((x : Int) > 4294967296 * (r : Int) + (v0 : Int)) = true := decide_eq_true (by omega)
              clear hx ht hq
              have hq0 := G2.1
              have G3 := Lib.hid G2.2
              clear G G2
              obtain ⟨q', hq'⟩ : ∃ q', q' = q - 1 := ⟨_, rfl⟩
              rw [← hq'] at G3
              have m1 : (q : Int) - 1 = (q' : Int) := by omega
              have hlt : q' < q := by omega
              have hqb' : q' < 8589934594 := by omega
              clear hq'
              rcases Nat.lt_or_ge (r + y1) 4294967296 with hr' | hr'
              · have d3 : decide ((r : Int) + (y1 : Int) ≥ 4294967296) = false := decide_eq_false (by omega)
                go_wp2
                go_round
                case rel => exact ⟨q', r + y1, by go_num, by go_num, hr', G3⟩
                case measure => simp [intOf]; omega
              · have d3 : decide ((r : Int) + (y1 : Int) ≥ 4294967296) = true := decide_eq_true (by omega)
                have HE := Lib.hid (HD2.out.past G3.out hr')
                clear G3 hlt hqb' hr'
                go_wp2_with fail
                go_meet
                case rel => exact ⟨q', rfl, HE, rfl⟩
            · have E := HD2.out.done G.out (by rw [← hx]; omega)
              have d1 : decide ((q : Int) ≥ 4294967296) = false := decide_eq_false (by omega)
              have d2 : decide ((x : Int) > 4294967296 * (r : Int) + (v0 : Int)) = false := decide_eq_false (by omega)
              have HE := Lib.hid E
              clear hx ht hq E
              go_wp2_with fail
              go_meet
              case rel => exact ⟨q, rfl, HE, rfl⟩
          · have G2 := HD2.out.down G.out (.inl hq)
            have d1 : decide ((q : Int) ≥ 4294967296) = true := decide_eq_true (by omega)
            clear hq
            have hq0 := G2.1
            have G3 := Lib.hid G2.2
            clear G G2
            obtain ⟨q', hq'⟩ : ∃ q', q' = q - 1 := ⟨_, rfl⟩
            rw [← hq'] at G3
            have m1 : (q : Int) - 1 = (q' : Int) := by omega
            have hlt : q' < q := by omega
            have hqb' : q' < 8589934594 := by omega
            clear hq'
            rcases Nat.lt_or_ge (r + y1) 4294967296 with hr' | hr'
            · have d3 : decide ((r : Int) + (y1 : Int) ≥ 4294967296) = false := decide_eq_false (by omega)
              go_wp2
              go_round
              case rel => exact ⟨q', r + y1, by go_num, by go_num, hr', G3⟩
              case measure => simp [intOf]; omega
            · have d3 : decide ((r : Int) + (y1 : Int) ≥ 4294967296) = true := decide_eq_true (by omega)
              have HE := Lib.hid (HD2.out.past G3.out hr')
              clear G3 hlt hqb' hr'
              go_wp2_with fail
              go_meet
              case rel => exact ⟨q', rfl, HE, rfl⟩
      case rest =>
        clear G0 hr0 f8 f9 hpU hqU
        obtain ⟨qb, rfl, E2, rfl⟩ := hcut
        rw [← HYY.out] at E2
        obtain ⟨r, hr⟩ : ∃ r, r = (u * 4294967296 + v0) % Y := ⟨_, rfl⟩
        have k2 := div_rest hY2 hY0 E2.out hr
        obtain ⟨c1, c2⟩ := div_final HV.out hv0 HY.out hY0 E.out HU.out E2.out hr
        have k3 := div_top hh hl c1
        have k4 : (r : Int) / 2 ^ s = ((r / 2 ^ s : Nat) : Int) := by push_cast; rfl
        obtain ⟨Q, hQ⟩ : ∃ Q, Q = qa * 4294967296 + qb := ⟨_, rfl⟩
        obtain ⟨R, hR⟩ : ∃ R, R = r / 2 ^ s := ⟨_, rfl⟩
        rw [← hQ] at k3 c1
        rw [← hR] at k4 c2
        have C := Lib.hid (And.intro c1 c2)
        clear hQ hR c1 c2 hr
        go_wp2
        go_ret2
        exact ⟨⟨Q, R, rfl, C.out.1, C.out.2⟩, 0, rfl⟩
end Go.Proofs.YtmpdoikdadjneaaDoor

/- LeadingZeros32, Div32, strconv.ParseUint at decimal digits. -/
namespace Go.Proofs.YtmpdoikdadjneaaDoor
open Go.RowKit Hb Vm Ds

theorem or_join (a b : Nat) (ha : a < 4294967296) (hb : b < 4294967296) : bits .or .u64 ((a : Int) * 4294967296) (b : Int) = ((a * 4294967296 + b : Nat) : Int) := by
  have h := bits_or_u64_nat (a * 4294967296) b (by omega) (by omega)
  rw [show ((a * 4294967296 : Nat) : Int) = (a : Int) * 4294967296 from by omega] at h
  rw [h]
  have h2 := Nat.two_pow_add_eq_or_of_lt (i := 32) (b := b) (by omega) a
  rw [show (2 : Nat) ^ 32 = 4294967296 from rfl, Nat.mul_comm] at h2
  omega
/-- the leading zeros as the shift that brings the highest bit to the front -/
theorem lz32 (y : Nat) (h0 : 0 < y) (h : y < 4294967296) (w : World) :
    Calls Tryd.prog 94 #[.int .u32 y] w fun e w' => (∃ s : Nat, e = .returned (.int .i64 s) ∧ s ≤ 31 ∧ 2147483648 ≤ y * 2 ^ s ∧ y * 2 ^ s < 4294967296) ∧ w = w' :=
  (Any.bits_LeadingZeros32 Tryd.layLz32 y w (by omega) (by omega)).mono fun _ _ ⟨he, hw⟩ => by
    obtain ⟨b1, b2, b3, b4⟩ := bitLen_bounds y h0 (by omega)
    have b5 : Lib.bitLen y ≤ 32 := by
      rcases Nat.lt_or_ge 32 (Lib.bitLen y) with h5 | h5
      · have : 2 ^ 32 ≤ 2 ^ (Lib.bitLen y - 1) := Nat.pow_le_pow_right (by decide) (by omega)
        omega
      · exact h5
    rw [Int.toNat_natCast] at he
    refine ⟨⟨32 - Lib.bitLen y, by rw [he]; congr 2; omega, by omega, ?_, ?_⟩, hw.symm⟩
    · have : 2 ^ (Lib.bitLen y - 1) * 2 ^ (32 - Lib.bitLen y) = 2 ^ 31 := by rw [← Nat.pow_add]; congr 1; omega
      have := Nat.mul_le_mul_right (2 ^ (32 - Lib.bitLen y)) b3
      omega
    · have h1 : 2 ^ Lib.bitLen y * 2 ^ (32 - Lib.bitLen y) = 2 ^ 32 := by rw [← Nat.pow_add]; congr 1; omega
      have := Nat.mul_lt_mul_of_pos_right b4 (show 0 < 2 ^ (32 - Lib.bitLen y) from Nat.pow_pos (by decide))
      omega

set_option maxHeartbeats 1000000 in
theorem div32 (hi lo y : Nat) (hh : hi < y) (hy : y < 4294967296) (hl : lo < 4294967296) (w : World) :
    Calls Tryd.prog 75 #[.int .u32 (hi : Int), .int .u32 (lo : Int), .int .u32 (y : Int)] w fun e w' => (∃ q r : Nat, e = .returned (.tuple #[.int .u32 q, .int .u32 r]) ∧ q = (hi * 4294967296 + lo) / y ∧ r = (hi * 4294967296 + lo) % y ∧ q < 4294967296 ∧ r < y) ∧ Quiet w w' := by
  obtain ⟨z, hz⟩ : ∃ z, z = hi * 4294967296 + lo := ⟨_, rfl⟩
  have e1 := or_join hi lo (by omega) hl
  rw [← hz] at e1
  obtain ⟨q, hq⟩ : ∃ q, q = z / y := ⟨_, rfl⟩
  obtain ⟨r, hr⟩ : ∃ r, r = z % y := ⟨_, rfl⟩
  have hzl : z < 18446744073709551616 := by omega
  have hql : q < 4294967296 := by
    rw [hq, Nat.div_lt_iff_lt_mul (by omega)]
    have : (hi + 1) * 4294967296 ≤ y * 4294967296 := Nat.mul_le_mul_right _ hh
    omega
  have hrl : r < y := by rw [hr]; exact Nat.mod_lt _ (by omega)
  have f1 : (z : Int) / (y : Int) = (q : Int) := by rw [hq]; exact (Int.natCast_ediv _ _).symm
  have f2 : (z : Int) % (y : Int) = (r : Int) := by rw [hr]; exact (Int.natCast_emod _ _).symm
  have f3 : (z : Int).tdiv (y : Int) = (q : Int) := by rw [Int.tdiv_eq_ediv_of_nonneg (by omega), f1]
  have f4 : (z : Int).tmod (y : Int) = (r : Int) := by rw [Int.tmod_eq_emod_of_nonneg (by omega), f2]
  have f5 : IntKind.u64.wrap (q : Int) = (q : Int) := by rw [IntKind.wrap_u64]; omega
  have f6 := w32 q hql
  have f7 := w32 r (by omega)
  have HQ := Lib.hid hq
  have HR := Lib.hid hr
  have HZ := Lib.hid hz
  clear hq hr hz
  go_enter Tryd.func75, Tryd.ntmps75
  go_wp2_with fail
  go_quiet (fail)
  go_wp2
  go_ret2
  exact ⟨⟨q, r, rfl, by rw [HQ.out, HZ.out], by rw [HR.out, HZ.out], hql, hrl⟩, _, rfl⟩

/-- the value of decimal digits, the first one the greatest -/
def dval (l : List UInt8) : Nat := l.foldl (fun a c => a * 10 + (c.toNat - 48)) 0
theorem parse_digits (M : Nat) (hM : M < 1844674407370955162) : ∀ (l : List UInt8) (acc : Nat), (∀ c ∈ l, 48 ≤ c.toNat ∧ c.toNat ≤ 57) → l.foldl (fun a c => a * 10 + (c.toNat - 48)) acc ≤ M → Lib.parseUintM M acc l = .ok (l.foldl (fun a c => a * 10 + (c.toNat - 48)) acc) := by
  intro l
  induction l with
  | nil => intro acc _ _; rfl
  | cons c r ih =>
    intro acc hd hle
    have hc := hd c (List.mem_cons_self ..)
    have mono : ∀ (l : List UInt8) (a : Nat), a ≤ l.foldl (fun a c => a * 10 + (c.toNat - 48)) a := by
      intro l
      induction l with
      | nil => intro a; exact Nat.le_refl _
      | cons d t ih2 => intro a; rw [List.foldl_cons]; have := ih2 (a * 10 + (d.toNat - 48)); omega
    rw [List.foldl_cons] at hle ⊢
    have := mono r (acc * 10 + (c.toNat - 48))
    unfold Lib.parseUintM
    rw [if_pos hc, if_neg (by omega), if_neg (by omega)]
    exact ih _ (fun d hd' => hd d (List.mem_cons_of_mem _ hd')) hle
theorem dval_lt (l : List UInt8) (h : ∀ c ∈ l, 48 ≤ c.toNat ∧ c.toNat ≤ 57) : dval l < 10 ^ l.length := by
  unfold dval
  have : ∀ (l : List UInt8) (a : Nat), (∀ c ∈ l, 48 ≤ c.toNat ∧ c.toNat ≤ 57) → l.foldl (fun a c => a * 10 + (c.toNat - 48)) a < (a + 1) * 10 ^ l.length := by
    intro l
    induction l with
    | nil => intro a _; simp
    | cons c r ih =>
      intro a h
      have hc := h c (List.mem_cons_self ..)
      have h1 := ih (a * 10 + (c.toNat - 48)) (fun d hd => h d (List.mem_cons_of_mem _ hd))
      rw [List.foldl_cons, List.length_cons, Nat.pow_succ]
      have h2 : (a * 10 + (c.toNat - 48) + 1) * 10 ^ r.length ≤ ((a + 1) * 10) * 10 ^ r.length := Nat.mul_le_mul_right _ (by omega)
      rw [Nat.mul_comm (10 ^ r.length) 10, ← Nat.mul_assoc]
      omega
  have := this l 0 h
  simpa using this
theorem parseUint_any (s : ByteArray) (hd : ∀ c ∈ s.data.toList, 48 ≤ c.toNat ∧ c.toNat ≤ 57) (h0 : 1 ≤ s.size) (h9 : s.size ≤ 9) (w : World) :
    Calls Tryd.prog 49 #[.string s, .int .i64 10, .int .i64 32] w fun e W' => (∃ u : Nat, e = .returned (.tuple #[.int .u64 u, .nilIface]) ∧ u = dval s.data.toList ∧ u < 1000000000) ∧ Below w.heap.size w W' := by
  have hl : s.data.toList.length = s.size := by simp
  have hv : dval s.data.toList < 1000000000 := by
    have h1 := dval_lt _ hd
    rw [hl] at h1
    have h2 : 10 ^ s.size ≤ 10 ^ 9 := Nat.pow_le_pow_right (by decide) h9
    omega
  have hp : Lib.parseUintB 32 s.data.toList = .ok (dval s.data.toList) := by
    unfold Lib.parseUintB
    rw [if_neg (by intro e; rw [e] at hl; simp at hl; omega)]
    exact parse_digits (2 ^ 32 - 1) (by decide) _ 0 hd (by unfold dval at hv; omega)
  refine (Any.strconv_ParseUint_10_at32_ok Tryd.layPu s (by omega) _ hp w).mono ?_
  rintro e W' ⟨rfl, hw⟩
  refine ⟨⟨_, rfl, rfl, hv⟩, ?_⟩
  rcases hw with rfl | rfl
  · exact Below.refl _ _
  · exact Lib.bytesWorld_below _ _ _
end Go.Proofs.YtmpdoikdadjneaaDoor

/- What guess answers. -/
namespace Go.Proofs.YtmpdoikdadjneaaDoor
open Go.RowKit Hb Vm Ds

def guessN (p2 p1 p0 y1 y0 : Nat) : Nat := min ((p2 * 18446744073709551616 + (p1 * 4294967296 + p0)) / (y1 * 4294967296 + y0)) 4294967295

theorem add_succ (a : Addr) (n : Nat) : a.add (n + 1) = ⟨a.block, a.off + (n + 1), none⟩ := by unfold Addr.add; simp

set_option maxRecDepth 100000 in
set_option maxHeartbeats 4000000 in
theorem guess_any (A C : Option Addr) (k c d : Nat) (xs ys : List Nat) (hk : k + 3 ≤ 300000) (hx : Dig 4294967296 xs) (hy : Dig 4294967296 ys) (htop : 2147483648 ≤ ys.getD (k + 1) 0) (w : World)
    (hrx : Rd w w.heap.size A (k + 3) (xs.map uw)) (hry : Rd w w.heap.size C (k + 2) (ys.map uw)) :
    Calls Tryd.prog 95 #[.slice A (k + 3 : Nat) c, .slice C (k + 2 : Nat) d] w fun e W' => (∃ q : Nat, e = .returned (.int .u32 q) ∧ q = guessN (xs.getD (k + 2) 0) (xs.getD (k + 1) 0) (xs.getD k 0) (ys.getD (k + 1) 0) (ys.getD k 0)) ∧ Quiet w W' := by
  obtain ⟨ax, rfl, -, hx2⟩ := Rd.word hrx (show k + 2 < k + 3 by omega)
  obtain ⟨_, e, -, hx1⟩ := Rd.word hrx (show k + 1 < k + 3 by omega)
  cases e
  obtain ⟨_, e, -, hx0⟩ := Rd.word hrx (show k < k + 3 by omega)
  cases e
  obtain ⟨ay, rfl, -, hy1⟩ := Rd.word hry (show k + 1 < k + 2 by omega)
  obtain ⟨_, e, -, hy0⟩ := Rd.word hry (show k < k + 2 by omega)
  cases e
  have l2 := hx.get (by decide) (k + 2)
  have l1 := hx.get (by decide) (k + 1)
  have l0 := hx.get (by decide) k
  have m1 := hy.get (by decide) (k + 1)
  have m0 := hy.get (by decide) k
  rw [add_succ] at hx1 hy1
  rw [show k + 2 = (k + 1) + 1 from rfl, add_succ] at hx2
  generalize xs.getD (k + 2) 0 = p2 at *
  generalize xs.getD (k + 1) 0 = p1 at *
  generalize xs.getD k 0 = p0 at *
  generalize ys.getD (k + 1) 0 = y1 at *
  generalize ys.getD k 0 = y0 at *
  clear hrx hry hx hy
  obtain ⟨low, hlow⟩ : ∃ low, low = p1 * 4294967296 + p0 := ⟨_, rfl⟩
  obtain ⟨Y, hY⟩ : ∃ Y, Y = y1 * 4294967296 + y0 := ⟨_, rfl⟩
  have e1 := or_join p1 p0 l1 l0
  have e2 := or_join y1 y0 m1 m0
  rw [← hlow] at e1
  rw [← hY] at e2
  have e3 : IntKind.u64.wrap ((p1 : Int) * 4294967296) = (p1 : Int) * 4294967296 := by rw [IntKind.wrap_u64]; omega
  have e4 : IntKind.u64.wrap ((y1 : Int) * 4294967296) = (y1 : Int) * 4294967296 := by rw [IntKind.wrap_u64]; omega
  have hlowl : low < 18446744073709551616 := by omega
  have hYl : Y < 18446744073709551616 := by omega
  have hYn : 9223372036854775808 ≤ Y := by omega
  have HLOW := Lib.hid hlow
  have HY := Lib.hid hY
  clear hlow hY
  have i1 : IntKind.i64.wrap ((k : Int) + 2 - 1) = (k : Int) + 1 := by rw [IntWalk.i64_in _ (by omega)]; omega
  have i2 : IntKind.i64.wrap ((k : Int) + 2 - 2) = (k : Int) := by rw [IntWalk.i64_in _ (by omega)]; omega
  have j0 : (0 : Int) ≤ (k : Int) := by omega
  have j1 : (0 : Int) ≤ (k : Int) + 1 := by omega
  have j2 : (0 : Int) ≤ (k : Int) + 2 := by omega
  have j3 : (k : Int) < (k : Int) + 3 := by omega
  have j4 : (k : Int) + 1 < (k : Int) + 3 := by omega
  have j5 : (k : Int) + 2 < (k : Int) + 3 := by omega
  have j6 : (k : Int) < (k : Int) + 2 := by omega
  have j7 : (k : Int) + 1 < (k : Int) + 2 := by omega
  have j8 : ((k : Int) + 1).toNat = k + 1 := by omega
  have j9 : ((k : Int) + 2).toNat = k + 2 := by omega
  go_enter Tryd.func95, Tryd.ntmps95
  go_wp2_with fail
  go_quiet (fail)
  go_wp2_with fail
  obtain ⟨W1, hW1⟩ : ∃ W1, W1 = w.drewN nq := ⟨_, rfl⟩
  have hx2' : W1.cell? ⟨ax.block, ax.off + (k + 1 + 1), none⟩ = some (.int .u32 (p2 : Int)) := by rw [hW1]; exact hx2
  have hy1' : W1.cell? ⟨ay.block, ay.off + (k + 1), none⟩ = some (.int .u32 (y1 : Int)) := by rw [hW1]; exact hy1
  have hy0' : W1.cell? (ay.add k) = some (.int .u32 (y0 : Int)) := by rw [hW1]; exact hy0
  have hWq : Quiet w W1 := ⟨_, hW1⟩
  have HW1 := Lib.hid hWq
  rw [← hW1]
  clear hW1 hWq hx0 hx1 hx2 hy0 hy1
  obtain ⟨Q, hQ⟩ : ∃ Q, Q = (p2 * 18446744073709551616 + low) / Y := ⟨_, rfl⟩
  obtain ⟨R, hR⟩ : ∃ R, R = (p2 * 18446744073709551616 + low) % Y := ⟨_, rfl⟩
  have C : ∀ W, Calls Tryd.prog 101 #[.int .u64 (p2 : Int), .int .u64 (low : Int), .int .u64 (Y : Int)] W fun e w' => e = .returned (.tuple #[.int .u64 (Q : Int), .int .u64 (R : Int)]) ∧ ∃ m, w' = W.drewN m := fun W =>
    (div64 p2 low Y (by omega) hYn hYl hlowl W).mono fun _ _ ⟨⟨q, r, he, hq, hr⟩, hw⟩ => ⟨by rw [he, hq, hr, ← hQ, ← hR], hw⟩
  have HC := Lib.hid C
  have hQl : Q < 18446744073709551616 := by
    rw [hQ, Nat.div_lt_iff_lt_mul (by omega)]
    have : p2 * 18446744073709551616 + low < (p2 + 1) * 18446744073709551616 := by omega
    have h2 : (p2 + 1) * 18446744073709551616 ≤ Y * 18446744073709551616 := Nat.mul_le_mul_right _ (by omega)
    rw [Nat.mul_comm] at h2 ⊢
    omega
  have HQ := Lib.hid hQ
  clear C hQ hR
  go_quiet (first | (go_at_call 101; refine Calls.quiet_of (HC.out _)))
  go_wp2_with fail
  go_ret
  refine ⟨⟨min Q 4294967295, ?_, ?_⟩, ?_⟩
  · show Ending.returned (.int .u32 (min (Q : Int) 4294967295)) = _
    exact ret_int (by omega)
  · unfold guessN; rw [← HLOW.out, ← HY.out, ← HQ.out]
  · obtain ⟨q, hq⟩ := HW1.out
    exact ⟨q + nq, by rw [hq, World.drewN_drewN]⟩
end Go.Proofs.YtmpdoikdadjneaaDoor

/- What divideShort answers. -/
namespace Go.Proofs.YtmpdoikdadjneaaDoor
open Go.RowKit Go.Shelf Hb Vm Ds Vr
attribute [local go_sem] Oper.semAt_some

/-- how far a short division has come: k words from the end are done -/
structure ShortSt (h n y : Nat) (xs : List Nat) (w : World) (k : Nat) (W : World) : Prop where
  by' : Boxed W h 81 (.int .u32 (y : Int))
  quo : Boxed W (h + 1) 31 (.slice (some ⟨h + 1 + 1 + 1, 0, none⟩) n n)
  val : ∃ (r : Nat) (qs : List Nat), Boxed W (h + 1 + 1) 81 (.int .u32 (r : Int)) ∧ Row W (h + 1 + 1 + 1) 81 (qs.map uw) ∧ qs.length = n ∧ Dig 4294967296 qs ∧ r < y ∧ Vm.val 4294967296 (xs.drop (n - k)) = Vm.val 4294967296 (qs.drop (n - k)) * y + r
  low : Below h w W
theorem ShortSt.but {h n y k B b : Nat} {xs : List Nat} {w W W' : World} (s : ShortSt h n y xs w k W) (hb : But B b W W') (hB : h + 4 ≤ B) (hbh : h + 4 ≤ b) : ShortSt h n y xs w k W' := by
  obtain ⟨h1, h2, ⟨r, qs, h3, h4, h5⟩, h6⟩ := s
  exact ⟨hb.boxed h1 (by omega) (by omega), hb.boxed h2 (by omega) (by omega), ⟨r, qs, hb.boxed h3 (by omega) (by omega), h4.but hb (by omega) (by omega), h5⟩, h6.trans (hb.low.mono (by omega))⟩
theorem short_step (b : Nat) (xs qs : List Nat) (i y q r r' : Nat) (hx : i < xs.length) (hq : i < qs.length) (h1 : q * y + r' = r * b + xs.getD i 0) (h : val b (xs.drop (i + 1)) = val b (qs.drop (i + 1)) * y + r) : val b (xs.drop i) = val b ((qs.set i q).drop i) * y + r' := by
  have e : (qs.set i q).drop i = q :: qs.drop (i + 1) := by
    rw [List.drop_eq_getElem_cons (by rw [List.length_set]; exact hq), List.getElem_set_self, List.drop_set_of_lt (by omega)]
  rw [e, val_drop_step b xs i hx, h, val_cons]
  have e2 : (q + b * val b (qs.drop (i + 1))) * y = q * y + b * (val b (qs.drop (i + 1)) * y) := by rw [Nat.add_mul, Nat.mul_assoc]
  rw [e2, Nat.mul_add, Nat.mul_comm b r]
  omega

/-- where a slice's words lie, words lie -/
def TagW (W : World) (v : Value) : Prop := ∀ a n c, v = .slice (some a) n c → ∃ cs f, W.heap[a.block]? = some (.cells cs 81 f)
set_option maxRecDepth 100000 in
set_option maxHeartbeats 4000000 in
theorem shortT_any (A : Option Addr) (n c y : Nat) (xs : List Nat) (hn : n ≤ 300000) (hx : Dig 4294967296 xs) (hy0 : 0 < y) (hy : y < 4294967296) (w : World) (hr : Rd w w.heap.size A n (xs.map uw)) :
    Calls Tryd.prog 54 #[.slice A n c, .int .u32 (y : Int)] w fun e W' => (∃ (v : Value) (r : Nat), e = .returned (.tuple #[v, .int .u32 (r : Int)]) ∧ Wl W' W'.heap.size v (wval xs / y) ∧ r = wval xs % y ∧ TagW W' v) ∧ Below w.heap.size w W' := by
  have hlx : xs.length = n := by simpa using hr.1
  refine (callsIn_wide (n := 8)).1 ?_
  refine callsIn_of_wp_marks Tryd.func54 rfl trivial ?_ rfl
  simp only [Tryd.ntmps54, List.size_toArray, List.length_cons, List.length_nil, Nat.reduceAdd, Nat.reduceSub, Array.replicate_succ, Array.replicate_zero, List.push_toArray, List.append_toArray, List.nil_append, List.cons_append]
  have mkn := fun W => makeW n (by omega) W
  have HX := Lib.hid hlx
  have bW : ∃ w1, w1 = (((w.alloc (.cells #[.int .u32 (y : Int)] 81)).alloc (.cells #[.slice (some ⟨w.heap.size + 1 + 1 + 1, 0, none⟩) n n] 31)).alloc (.cells #[.int .u32 0] 81)).alloc (mkW n) := ⟨_, rfl⟩
  obtain ⟨w1, hw1⟩ := bW
  have z1 : w1.heap.size = w.heap.size + 1 + 1 + 1 + 1 := by rw [hw1]; simp
  have s1 : ShortSt w.heap.size n y xs w 0 w1 := by
    have b1 := Boxed.new w 81 (.int .u32 (y : Int))
    have b2 := Boxed.new (w.alloc (.cells #[.int .u32 (y : Int)] 81)) 31 (.slice (some ⟨w.heap.size + 1 + 1 + 1, 0, none⟩) n n)
    have b3 := Boxed.new ((w.alloc (.cells #[.int .u32 (y : Int)] 81)).alloc (.cells #[.slice (some ⟨w.heap.size + 1 + 1 + 1, 0, none⟩) n n] 31)) 81 (.int .u32 0)
    have b4 := mkW_row n (((w.alloc (.cells #[.int .u32 (y : Int)] 81)).alloc (.cells #[.slice (some ⟨w.heap.size + 1 + 1 + 1, 0, none⟩) n n] 31)).alloc (.cells #[.int .u32 0] 81))
    simp only [World.size_alloc] at b2 b3 b4
    rw [hw1]
    refine ⟨((b1.alloc _).alloc _).alloc _, (b2.alloc _).alloc _, ⟨0, List.replicate n 0, b3.alloc _, b4, List.length_replicate .., Dig.zeros (by decide) n, hy0, ?_⟩, ((((Below.refl _ w).alloc (Nat.le_refl _) _).alloc (by simp) _).alloc (by simp; omega) _).alloc (by simp; omega) _⟩
    rw [List.drop_of_length_le (by rw [hlx]; omega), List.drop_of_length_le (by simp)]
    simp [Vm.val]
  clear hlx
  gi_wp2_with fail
  refine ⟨trivial, ?_⟩
  rw [← hw1]
  refine (back_any _ A n c w1).mono ?_
  rintro e w' ⟨rfl, rfl⟩
  have bx := Boxed.new w1 31 (.slice A n c)
  obtain ⟨w2, hw2⟩ : ∃ w2, w2 = w1.alloc (.cells #[.slice A n c] 31) := ⟨_, rfl⟩
  have bw : Below w1.heap.size w1 w2 := by rw [hw2]; exact (Below.refl _ _).alloc (Nat.le_refl _) _
  have z2 : w2.heap.size = w.heap.size + 1 + 1 + 1 + 1 + 1 := by rw [hw2]; simp [z1]
  rw [← hw2] at bx ⊢
  have s2 : ShortSt w.heap.size n y xs w 0 w2 := s1.but (But.of_below bw (Nat.le_refl _)) (by omega) (by omega)
  rw [z1] at bx ⊢
  have hr2 := hr.below s2.low
  have Z2 := Lib.hid z2
  clear hw1 hw2 bw s1 mkn z1 z2
  unfold backV
  gi_wp2_with fail
  refine wpIn_rangeFunc_seq rfl (by omega) (gf := 90) (bd := #[]) (lb := #[.pointer (some ⟨w.heap.size + 1 + 1 + 1 + 1, 0, none⟩)]) rfl trivial (enters_of Tryd.func90 (by kernel_rfl) rfl)
    (encs := backE xs n) (N := n) (p := w.heap.size + 1 + 1 + 1 + 1) (Kp := KeepBox w.heap.size (w.heap.size + 1 + 1 + 1 + 1)) (St := fun _ W => BackSt w.heap.size (w.heap.size + 1 + 1 + 1 + 1) A n c xs W)
    (by rw [Z2.out]; omega) (back_seq 7 (by omega) w.heap.size (w.heap.size + 1 + 1 + 1 + 1) n c A xs hn (by omega))
    (fun h k => ⟨h.1.trans k.1, k.2.trans h.2⟩) (fun A B h => ⟨h.mono (by rw [Z2.out]; omega), h.block _ (by rw [Z2.out]; omega)⟩) (fun k A B h1 h2 => ⟨(h2.block _ (by rw [Z2.out]; omega)).trans h1.1, h1.2.below (h2.mono (by rw [Z2.out]; omega))⟩) ⟨bx, hr2⟩ (fun _ => rfl)
    (fun k W => ShortSt w.heap.size n y xs w k W) (fun _ _ _ => False)
    (fun k A B hA h1 h2 => h1.but h2 (by rw [Z2.out]; omega) (by omega)) (fun _ _ _ _ h _ => h) s2
    (fun k => { tmps := #[.slice A n c, .int .u32 (y : Int), undef, .pointer (some ⟨w.heap.size, 0, none⟩), .pointer (some ⟨w.heap.size + 1, 0, none⟩), .pointer (some ⟨w.heap.size + 1 + 1, 0, none⟩), .int .i64 ((n - 1 - k : Nat) : Int), .int .u32 (xs.getD (n - 1 - k) 0 : Nat), .slice A n c, .int .i64 (n : Int), .slice (some ⟨w.heap.size + 1 + 1 + 1, 0, none⟩) n n, .slice A n c, .func (.func 90) #[] #[.pointer (some ⟨w.heap.size + 1 + 1 + 1 + 1, 0, none⟩)], .int .i64 ((n - 1 - k : Nat) : Int), .int .u32 (xs.getD (n - 1 - k) 0 : Nat), undef, undef, undef, undef, undef, undef, undef, undef, undef, undef, undef, undef, undef], defers := [] }) ?assign ?body ?done ?stop
  case assign =>
    intro l k W K hK
    unfold backE
    gi_wp2
    simp only [List.getD_eq_getElem?_getD] at hK
    exact hK
  case body =>
    rintro l k W hW ⟨k1, k2, ⟨r, qs, k3, k4, hql, hqd, hry, hv⟩, k5⟩ - hk
    have c0 := k1.cell
    have c1 := k2.cell
    have c2 := k3.cell
    have f2 := k3.frozen
    obtain ⟨i, hi⟩ : ∃ i, i = n - 1 - k := ⟨_, rfl⟩
    rw [← hi]
    obtain ⟨x, hxi⟩ : ∃ x, x = xs.getD i 0 := ⟨_, rfl⟩
    have hxl : x < 4294967296 := by rw [hxi]; exact hx.get (by decide) i
    rw [← hxi]
    have hin : i < n := by omega
    have hrow := k4.read uw (k := i) (by rw [hql]; exact hin)
    have hfz := k4.frozen i
    unfold uw at hrow
    have C := Lib.hid (fun W => div32 r x y hry hy hxl W)
    have HI := Lib.hid hi
    have HXI := Lib.hid hxi
    have HQL := Lib.hid hql
    clear hi hxi hql
    have hlt := k4.lt
    gi_wp2_with fail
    refine wpIn_region_round (fun w' => w'.cell? ⟨w.heap.size, 0, none⟩ = some (.int .u32 (y : Int)) ∧ w'.cell? ⟨w.heap.size + 1, 0, none⟩ = some (.slice (some ⟨w.heap.size + 1 + 1 + 1, 0, none⟩) n n)) (by kernel_rfl) (by rintro ⟨a, w, h⟩; exact h) (by kernel_rfl) ?_
    have hS : (fun w' : World => w'.cell? ⟨w.heap.size, 0, none⟩ = some (.int .u32 (y : Int)) ∧ w'.cell? ⟨w.heap.size + 1, 0, none⟩ = some (.slice (some ⟨w.heap.size + 1 + 1 + 1, 0, none⟩) n n)) W.drew := ⟨c0, c1⟩
    refine wpAnyH_take (i := 1) (v := .int .i64 (i : Int)) rfl (by kernel_rfl) (by kernel_rfl) (by kernel_rfl) (fun _ _ _ h => h) (Or.inl ⟨by rfl, by intro w hSw; go_simp⟩) hS ?_
    refine wpAnyH_take (i := 3) (v := .int .u32 (x : Int)) rfl (by kernel_rfl) (by kernel_rfl) (by kernel_rfl) (fun _ _ _ h => h) (Or.inl ⟨by rfl, by intro w hSw; go_simp⟩) hS ?_
    refine wpAnyH_take (i := 0) (v := .slice (some ⟨w.heap.size + 1 + 1 + 1, 0, none⟩) n n) rfl (by kernel_rfl) (by kernel_rfl) (by kernel_rfl) (fun _ _ _ h => h) (Or.inl ⟨by rfl, by intro w hSw; obtain ⟨q0, q1⟩ := hSw; go_simp⟩) hS ?_
    refine wpAnyH_take (i := 4) (v := .int .u32 (y : Int)) rfl (by kernel_rfl) (by kernel_rfl) (by kernel_rfl) (fun _ _ _ h => h) (Or.inl ⟨by rfl, by intro w hSw; obtain ⟨q0, q1⟩ := hSw; go_simp⟩) hS ?_
    simp only [Act.put, List.setIfInBounds_toArray]
    refine one_ready (i := 2) (by kernel_rfl) rfl (fun K hK => ?_)
    go_simp
    refine hK.out _ _ hS (fun _ => ?_)
    clear hK K
    refine one_ready (i := 5) (by kernel_rfl) rfl (fun K hK => ?_)
    go_simp
    refine (C.out _).mono ?_
    rintro e W4 ⟨⟨q, r', rfl, hq, hr', hql, hrl⟩, ⟨nd, rfl⟩⟩
    have hqe : q * y + r' = r * 4294967296 + x := by rw [hq, hr']; exact Nat.div_add_mod' _ _
    have HQR := Lib.hid hqe
    clear hq hr' hqe
    dsimp only
    obtain ⟨W5, hW5⟩ : ∃ W5, W5 = W.drew.drewN nd := ⟨_, rfl⟩
    rw [← hW5]
    have b5 : Below W.heap.size W W5 := by rw [hW5]; exact below_drewN (Below.refl _ _).drew nd
    have ko5 : KeepsOthers W W5 := by rw [hW5]; exact ⟨Nat.le_refl _, fun _ _ h _ => h⟩
    have z5 := b5.size
    have j1 := (b5.block _ k1.lt).trans k1
    have j2 := (b5.block _ k2.lt).trans k2
    have j3 : Boxed W5 (w.heap.size + 1 + 1) 81 (.int .u32 (r : Int)) := (b5.block _ k3.lt).trans k3
    have j4 := k4.below b5 hlt
    clear hW5
    have hS5 : (fun w' : World => w'.cell? ⟨w.heap.size, 0, none⟩ = some (.int .u32 (y : Int)) ∧ w'.cell? ⟨w.heap.size + 1, 0, none⟩ = some (.slice (some ⟨w.heap.size + 1 + 1 + 1, 0, none⟩) n n)) W5 := ⟨Boxed.cell j1, Boxed.cell j2⟩
    refine hK.out _ _ hS5 (fun _ => ?_)
    clear hK K
    refine wpAnyH_take (i := 6) (v := .tuple #[.int .u32 (q : Int), .int .u32 (r' : Int)]) rfl (by kernel_rfl) (by kernel_rfl) (by kernel_rfl) (fun _ _ _ h => h) (Or.inl ⟨by rfl, by intro w hSw; go_simp⟩) hS5 ?_
    refine wpAnyH_take (i := 7) (v := .int .u32 (q : Int)) rfl (by kernel_rfl) (by kernel_rfl) (by kernel_rfl) (fun _ _ _ h => h) (Or.inl ⟨by rfl, by intro w hSw; go_simp⟩) hS5 ?_
    refine wpAnyH_take (i := 8) (v := .int .u32 (r' : Int)) rfl (by kernel_rfl) (by kernel_rfl) (by kernel_rfl) (fun _ _ _ h => h) (Or.inl ⟨by rfl, by intro w hSw; go_simp⟩) hS5 ?_
    simp only [Act.put, List.setIfInBounds_toArray]
    have fz5 := j4.frozen i
    have cl5 := j4.read uw (k := i) (by rw [HQL.out]; exact hin)
    have cc2 := Boxed.cell j3
    have ff2 := Boxed.frozen j3
    unfold uw at cl5
    refine one_ready (i := 9) (by kernel_rfl) rfl (fun K hK => ?_)
    go_simp
    refine hK.out _ _ hS5 (fun _ => ?_)
    clear hK K
    refine one_ready (i := 10) (by kernel_rfl) rfl (fun K hK => ?_)
    go_simp
    obtain ⟨W6, hW6⟩ : ∃ W6, W6 = W5.setCell ⟨w.heap.size + 1 + 1 + 1, i, none⟩ (.int .u32 (q : Int)) := ⟨_, rfl⟩
    have l1 : Boxed W6 w.heap.size 81 (.int .u32 (y : Int)) := by rw [hW6]; exact (Below.heap_setCell _ _ _ _ (by show w.heap.size ≠ w.heap.size + 1 + 1 + 1; omega)).trans j1
    have l2 : Boxed W6 (w.heap.size + 1) 31 (.slice (some ⟨w.heap.size + 1 + 1 + 1, 0, none⟩) n n) := by rw [hW6]; exact (Below.heap_setCell _ _ _ _ (by show w.heap.size + 1 ≠ w.heap.size + 1 + 1 + 1; omega)).trans j2
    have l3 : Boxed W6 (w.heap.size + 1 + 1) 81 (.int .u32 (r : Int)) := by rw [hW6]; exact (Below.heap_setCell _ _ _ _ (by show w.heap.size + 1 + 1 ≠ w.heap.size + 1 + 1 + 1; omega)).trans j3
    have l4 : Row W6 (w.heap.size + 1 + 1 + 1) 81 ((qs.set i q).map uw) := by rw [hW6]; exact j4.put uw q
    have ko6 : KeepsOthers W W6 := by rw [hW6]; exact ko5.trans (KeepsOthers.setCell _ _ _)
    have b6 : Below w.heap.size W W6 := by rw [hW6]; exact (b5.mono (by omega)).setCell (p := ⟨w.heap.size + 1 + 1 + 1, i, none⟩) (by show w.heap.size ≤ w.heap.size + 1 + 1 + 1; omega) _
    have e6 : W6.heap[w.heap.size + 1 + 1 + 1 + 1]? = W.heap[w.heap.size + 1 + 1 + 1 + 1]? := by rw [hW6, Below.heap_setCell _ _ _ _ (by show w.heap.size + 1 + 1 + 1 + 1 ≠ w.heap.size + 1 + 1 + 1; omega)]; exact b5.block _ (by have := Z2.out; omega)
    rw [← hW6]
    clear hW6 cl5 fz5 cc2 ff2
    have hS6 : (fun w' : World => w'.cell? ⟨w.heap.size, 0, none⟩ = some (.int .u32 (y : Int)) ∧ w'.cell? ⟨w.heap.size + 1, 0, none⟩ = some (.slice (some ⟨w.heap.size + 1 + 1 + 1, 0, none⟩) n n)) W6 := ⟨Boxed.cell l1, Boxed.cell l2⟩
    refine hK.out _ _ hS6 (fun _ => ?_)
    clear hK K
    have cc2 := Boxed.cell l3
    have ff2 := Boxed.frozen l3
    refine one_ready (i := 11) (by kernel_rfl) rfl (fun K hK => ?_)
    go_simp
    have hS7 : (fun w' : World => w'.cell? ⟨w.heap.size, 0, none⟩ = some (.int .u32 (y : Int)) ∧ w'.cell? ⟨w.heap.size + 1, 0, none⟩ = some (.slice (some ⟨w.heap.size + 1 + 1 + 1, 0, none⟩) n n)) (W6.setCell ⟨w.heap.size + 1 + 1, 0, none⟩ (.int .u32 (r' : Int))) := ⟨Boxed.cell (l1.other (by omega) _), Boxed.cell (l2.other (by omega) _)⟩
    refine hK.out _ _ hS7 (fun _ => ?_)
    clear hK K
    refine wpAnyH_done (by kernel_rfl) ?_ _
    have e7 : n - (k + 1) = i := by have := HI.out; omega
    have e8 : n - k = i + 1 := by have := HI.out; omega
    refine ⟨ko6.trans (KeepsOthers.setCell _ _ _), ⟨b6.setCell (p := ⟨w.heap.size + 1 + 1, 0, none⟩) (by show w.heap.size ≤ w.heap.size + 1 + 1; omega) _, (Below.heap_setCell _ _ _ _ (by show w.heap.size + 1 + 1 + 1 + 1 ≠ w.heap.size + 1 + 1; omega)).trans e6⟩, l1.other (by omega) _, l2.other (by omega) _, ⟨r', qs.set i q, l3.set _, l4.other 0 _ (by omega), by rw [List.length_set, HQL.out], hqd.set _ hql, hrl, ?_⟩, k5.trans (b6.setCell (p := ⟨w.heap.size + 1 + 1, 0, none⟩) (by show w.heap.size ≤ w.heap.size + 1 + 1; omega) _)⟩
    rw [e7]
    rw [e8] at hv
    exact short_step 4294967296 xs qs i y q r r' (by rw [HX.out]; exact hin) (by rw [HQL.out]; exact hin) (by rw [HQR.out, HXI.out]) hv
  case done =>
    rintro D W hD ⟨k1, k2, ⟨r, qs, k3, k4, hql, hqd, hry, hv⟩, k5⟩ - hK
    have c1 := k2.cell
    have c2 := k3.cell
    have f1 := k2.frozen
    have f2 := k3.frozen
    have hrd := k4.rd n (by rw [List.length_map, hql])
    have hlt := k4.lt
    have hqv : wval qs = wval xs / y ∧ r = wval xs % y := by
      rw [Nat.sub_self, List.drop_zero, List.drop_zero] at hv
      unfold wval
      rw [hv]
      constructor
      · rw [Nat.mul_comm, Nat.mul_add_div hy0, Nat.div_eq_of_lt hry, Nat.add_zero]
      · rw [Nat.mul_comm, Nat.mul_add_mod, Nat.mod_eq_of_lt hry]
    have HQV := Lib.hid hqv
    have HQL := Lib.hid hql
    have C := Lib.hid (fun V hV => trim_at (some ⟨w.heap.size + 1 + 1 + 1, 0, none⟩) n n W.heap.size qs (Nat.le_refl _) (by unfold maxLen; omega) hqd V hV)
    have hS : (fun w' : World => w'.cell? ⟨w.heap.size + 1 + 1, 0, none⟩ = some (.int .u32 (r : Int))) W.drew := c2
    have HRD : Rd W.drew W.heap.size (some ⟨w.heap.size + 1 + 1 + 1, 0, none⟩) n (qs.map uw) := hrd.mono hlt
    clear hqv hv hql hrd
    gi_wp2_with fail
    refine wpIn_wide.2 ?_
    refine wp_region_quietpanic (S := fun w' => w'.cell? ⟨w.heap.size + 1 + 1, 0, none⟩ = some (.int .u32 (r : Int))) (by kernel_rfl) ?_
    refine wpAnyH_take (i := 2) (v := .int .u32 (r : Int)) rfl (by kernel_rfl) (by kernel_rfl) (by kernel_rfl) (fun _ _ _ h => h) (Or.inl ⟨by rfl, by intro w hSw; go_simp⟩) hS ?_
    simp only [Act.put, List.setIfInBounds_toArray]
    refine one_ready (i := 0) (by kernel_rfl) rfl (fun K hK' => ?_)
    go_simp
    refine hK'.out _ _ hS (fun _ => ?_)
    clear hK' K
    refine one_ready (i := 1) (by kernel_rfl) rfl (fun K hK' => ?_)
    go_simp
    refine (C.out _ HRD).mono ?_
    rintro e W4 ⟨rfl, rfl⟩
    dsimp only
    refine hK'.out _ _ hS (fun _ => ?_)
    clear hK' K
    refine one_ready (i := 3) (by kernel_rfl) rfl (fun K hK' => ?_)
    go_simp
    obtain ⟨V, hV⟩ : ∃ V, V = (W.setCell ⟨w.heap.size + 1, 0, none⟩ (.slice (some ⟨w.heap.size + 1 + 1 + 1, 0, none⟩) (ws (wval qs)).length n)).drew := ⟨_, rfl⟩
    have l2 : Boxed V (w.heap.size + 1) 31 (.slice (some ⟨w.heap.size + 1 + 1 + 1, 0, none⟩) (ws (wval qs)).length n) := by rw [hV]; exact Boxed.set _ k2
    have l3 : Boxed V (w.heap.size + 1 + 1) 81 (.int .u32 (r : Int)) := by rw [hV]; exact Boxed.other k3 (by omega) _
    have l4 : Row V (w.heap.size + 1 + 1 + 1) 81 (qs.map uw) := by rw [hV]; exact Row.other k4 _ _ (by omega)
    have l5 : Below w.heap.size W V := by rw [hV]; exact ((Below.refl _ W).setCell (p := ⟨w.heap.size + 1, 0, none⟩) (by show w.heap.size ≤ w.heap.size + 1; omega) _).drew
    have hko : KeepsOthers W (W.setCell ⟨w.heap.size + 1, 0, none⟩ (.slice (some ⟨w.heap.size + 1 + 1 + 1, 0, none⟩) (ws (wval qs)).length n)) := KeepsOthers.setCell _ _ _
    have l6 : KeepsOthers W V := by rw [hV]; exact ⟨hko.size, hko.same⟩
    have l7 : V.heap.size = W.heap.size := by rw [hV]; simp
    have l8 : But W.heap.size (w.heap.size + 1) W V := by rw [hV]; exact (But.setCell _ _ _ _ _).trans ⟨(Below.refl _ _).drew, fun _ _ _ => rfl⟩
    rw [← hV]
    have c3 := Boxed.cell l3
    have f3 := Boxed.frozen l3
    refine hK'.out _ _ c3 (fun _ => ?_)
    clear hK' K hV
    refine one_ready (i := 4) (by kernel_rfl) rfl (fun K hK' => ?_)
    go_simp
    have m3 := Boxed.set (.int .u32 (r : Int)) l3
    refine hK'.out _ _ (Boxed.cell m3) (fun _ => ?_)
    clear hK' K
    refine wpAnyH_done (by kernel_rfl) ?_ _
    refine NoPanic.normal ?_
    gi_wp2_with fail
    have hK3 : (V.setCell ⟨w.heap.size + 1 + 1, 0, none⟩ (.int .u32 (r : Int))).heap[D]? = some (.deferred (some [])) := (l6.trans (KeepsOthers.setCell _ _ _)).same D _ hK rfl
    refine ⟨by simp, .inl ⟨_, _, rfl, run_takeDeferred hK3, ?_⟩⟩
    have bD : ∀ (V : World) o, Below (w.heap.size + 1 + 1 + 1 + 1) V (V.putObj D o) := fun V o => putObj_below V o (by have := Z2.out; omega)
    have l4' := (l4.other (p := w.heap.size + 1 + 1) 0 (.int .u32 (r : Int)) (by omega)).below (bD _ (.deferred none)) (by omega)
    refine ⟨_, results_cell2 _ _ rfl rfl rfl Tryd.underlying31 Tryd.underlying81 rfl rfl (Boxed.cell (((bD _ _).block _ (by omega)).trans (l2.other (by omega) _))) (Boxed.cell (((bD _ _).block _ (by omega)).trans m3)), ⟨_, _, rfl, ?_, HQV.out.2, fun a n' c' he => by cases he; exact ⟨_, _, l4'⟩⟩, k5.trans (l5.trans (((Below.refl w.heap.size V).setCell (p := ⟨w.heap.size + 1 + 1, 0, none⟩) (by show w.heap.size ≤ w.heap.size + 1 + 1; omega) _).trans ((bD _ _).mono (by omega))))⟩
    rw [← HQV.out.1]
    exact trim_wl ((l4'.rd n (by rw [List.length_map, HQL.out])).mono (by have := l4'.lt; omega)) (Nat.le_refl _) (by unfold maxLen; omega) hqd
  case stop =>
    rintro D c k W _ _ h _
    exact h.elim
theorem shortL_any (A : Option Addr) (n c y : Nat) (xs : List Nat) (hn : n ≤ 300000) (hx : Dig 4294967296 xs) (hy0 : 0 < y) (hy : y < 4294967296) (w : World) (hr : Rd w w.heap.size A n (xs.map uw)) :
    Calls Tryd.prog 54 #[.slice A n c, .int .u32 (y : Int)] w fun e W' => (∃ (v : Value) (r : Nat), e = .returned (.tuple #[v, .int .u32 (r : Int)]) ∧ Wl W' W'.heap.size v (wval xs / y) ∧ r = wval xs % y) ∧ Below w.heap.size w W' :=
  (shortT_any A n c y xs hn hx hy0 hy w hr).mono fun _ _ h => let ⟨⟨v, r, h1, h2, h3, _⟩, h4⟩ := h; ⟨⟨v, r, h1, h2, h3⟩, h4⟩
end Go.Proofs.YtmpdoikdadjneaaDoor

/- What divideLong answers. -/
namespace Go.Proofs.YtmpdoikdadjneaaDoor
open Go.RowKit Go.Shelf Hb Vm Ds Vr

theorem sp32 (s : Nat) (hs : s ≤ 31) : 2 ^ s < 4294967296 ∧ 0 < 2 ^ s := ⟨Nat.lt_of_lt_of_le (Nat.pow_lt_pow_right (by decide) (by omega)) (Nat.le_refl (2 ^ 32)), Nat.pow_pos (by decide)⟩

/-- copy into a row of the call's own: of what was there, that row alone turns -/
theorem wpList_copy_but {P : Program} {w : World} {ops : Array Oper} {rest : List Oper} {o : Oper} {a : Act} {Q : Exit → Act → World → Prop} (hgd : o.guard = none) (d s : Operand) (dT sT : TypeId)
    (ho : o.op = .call { callee := .builtin .copy, args := #[d, s], argTypes := #[dT, sT] }) (elem : TypeId) (hu : P.underlying dT = some (.slice elem)) (hsz : (P.info? elem).map (·.size) = some 1)
    (g off dLen dCap : Nat) (ad : Addr) (sLen sCap : Nat) (hd : a.eval d = .slice (some ⟨g, off, none⟩) dLen dCap) (hs : a.eval s = .slice (some ad) sLen sCap)
    (cur : List Value) (t : TypeId) (hg : Row w g t cur) (cs : List Value) (hn : cs.length = Nat.min sLen dLen)
    (hsrc : Rd w w.heap.size (some ad) cs.length cs) (hfit : off + cs.length ≤ cur.length) (h1 : ∀ v ∈ cs, v.oneCell' = true)
    (h : ∀ w', Hid (Row w' g t (splice cur off cs)) → But w.heap.size g w w' → wpList P ops Q rest (a.put o.dst (goInt cs.length)) w') :
    wpList P ops Q (o :: rest) a w := by
  refine wpList_copy_own hgd d s dT sT ho elem hu hsz g off dLen dCap ad sLen sCap hd hs cur.toArray t hg cs hn (fun j v hj => ?_) (by simpa using hfit) h1 ?_
  · have hl : j < cs.length := (List.getElem?_eq_some_iff.1 hj).1
    obtain ⟨a', e, _, hc⟩ := hsrc.2 (by omega)
    cases e
    exact hc j v hj
  · exact h _ (show _ = _ by simpa [splice] using setRow_heap w g _ _ t _ hg) ⟨below_setRow (Below.refl _ _) (Nat.le_refl _) _, fun k h1 _ => setRow_other w g k _ (by omega)⟩

set_option maxRecDepth 100000 in
set_option maxHeartbeats 4000000 in
theorem longD_any (A C : Option Addr) (n c m d x y : Nat) (hnl : (ws x).length = n) (hml : (ws y).length = m) (hm2 : 2 ≤ m) (hmn : m ≤ n) (hn : n ≤ 150000) (w : World) (hrx : Rd w w.heap.size A n ((ws x).map uw)) (hry : Rd w w.heap.size C m ((ws y).map uw)) :
    Calls Tryd.prog 79 #[.slice A n c, .slice C m d] w fun e W' => (∃ v r, e = .returned (.tuple #[v, r]) ∧ Wl W' W'.heap.size v (x / y) ∧ Wl W' W'.heap.size r (x % y)) ∧ Below w.heap.size w W' := by
  obtain ⟨k, rfl⟩ : ∃ k, m = k + 2 := ⟨m - 2, by omega⟩
  obtain ⟨et, elt, e0⟩ := top_of (b := 4294967296) (n := y) (m := k + 1) (by decide) hml
  have hdy := ws_dig y
  have htl : (ws y).getD (k + 1) 0 < 4294967296 := hdy.get (by decide) _
  obtain ⟨a, rfl, -, hc⟩ := Rd.word hry (show k + 1 < k + 2 by omega)
  obtain ⟨t, ht⟩ : ∃ t, t = (ws y).getD (k + 1) 0 := ⟨_, rfl⟩
  change 0 < (ws y).getD (k + 1) 0 at e0
  rw [← ht] at hc htl e0
  have HT := Lib.hid ht
  have HN := Lib.hid hnl
  have HM := Lib.hid hml
  have hc2 := hc
  rw [add_succ] at hc2
  clear et elt ht hnl hml
  go_enter Tryd.func79, Tryd.ntmps79
  go_wp2_with fail
  go_step3
  go_wp2_with fail
  refine (lz32 t e0 htl w).mono ?_
  rintro e W ⟨⟨s, rfl, hs, hs1, hs2⟩, rfl⟩
  have hsh := shiftedB 4294967296 rfl (y := y) (m := k + 1) (s := s) HM.out hs (by have := HT.out; unfold ws at this; rw [← this]; exact hs1) (by have := HT.out; unfold ws at this; rw [← this]; exact hs2)
  have HSH := Lib.hid hsh
  clear hs1 hs2 hsh
  obtain ⟨p, hp⟩ : ∃ p, p = 2 ^ s := ⟨_, rfl⟩
  have hp32 := sp32 s hs
  rw [← hp] at hp32
  have hpe : (2 : Int) ^ s = (p : Int) := by rw [hp]; simp
  have hpe1 : (1 : Int) * 2 ^ s = (p : Int) := by rw [Int.one_mul, hpe]
  have HP := Lib.hid hp
  clear hp
  go_wp2_with fail
  refine (scaleL_any (some a) (k + 2) d p 0 _ _ rfl rfl (ws y) (by omega) hdy hp32.1 (by decide) w hry).mono ?_
  rintro e W1 ⟨⟨vY, rfl, hY⟩, hB1⟩
  rw [ws_val, Nat.add_zero] at hY
  obtain ⟨Y, hYd⟩ : ∃ Y, Y = y * p := ⟨_, rfl⟩
  rw [← hYd] at hY
  obtain ⟨CY, dY, rfl, hrY, hdY1, hdY2⟩ := hY
  have hYl : (ws Y).length = k + 2 := by have := HSH.out.1; rw [← HP.out, ← hYd] at this; exact this
  have hYt : 2147483648 ≤ (ws Y).getD (k + 1) 0 := by have := HSH.out.2; rw [← HP.out, ← hYd] at this; exact this
  rw [hYl] at hrY hdY1 ⊢
  have HYL := Lib.hid hYl
  have HYD := Lib.hid hYd
  obtain ⟨j, hj⟩ : ∃ j, n = k + 2 + j := ⟨n - (k + 2), by omega⟩
  have ej : (n : Int) - ((k : Int) + 2) = (j : Int) := by omega
  have hjn : j ≤ n := by omega
  have HJ := Lib.hid hj
  have mk1 : Sem.run Tryd.prog (Instr.makeSlice 31 (.int .i64 ((n : Int) + 1)) (.int .i64 ((n : Int) + 1))) W1 = .ok (.slice (some ⟨W1.heap.size, 0, none⟩) (n + 1) (n + 1)) (W1.alloc (mkW (n + 1))) := makeW (n + 1) (by omega) W1
  have r1 := mkW_row (n + 1) W1
  have b2 := mkW_below (n + 1) W1
  obtain ⟨W2, hW2⟩ : ∃ W2, W2 = W1.alloc (mkW (n + 1)) := ⟨_, rfl⟩
  rw [← hW2] at mk1 r1 b2
  have s2 := b2.size
  have lt1 := r1.lt
  clear hc hc2 hYl hYd hj hW2 e0 htl
  go_wp2_with fail
  refine (scaleL_any A n c p 0 _ _ rfl rfl (ws x) (by omega) (ws_dig x) hp32.1 (by decide) W2 ((hrx.later hB1 hB1.size).later b2 (by omega))).mono ?_
  rintro e W3 ⟨⟨vX, rfl, hX⟩, hB3⟩
  rw [ws_val, Nat.add_zero] at hX
  obtain ⟨X, hXd⟩ : ∃ X, X = x * p := ⟨_, rfl⟩
  rw [← hXd] at hX
  obtain ⟨CX, cX, rfl, hrX, hcX1, hcX2⟩ := hX
  have hXl : (ws X).length ≤ n + 1 := by
    refine digs_len_le (by decide) ?_
    rw [hXd]
    have h1 := digs_lt (b := 4294967296) (by decide) x
    rw [show (digs 4294967296 x).length = n from HN.out] at h1
    have h2 : ∀ b : Nat, p < b → x < b ^ n → x * p < b ^ (n + 1) := fun b h1 h2 => by rw [Nat.pow_succ]; exact Nat.mul_lt_mul'' h2 h1
    exact h2 _ hp32.1 h1
  have HXD := Lib.hid hXd
  clear hXd mk1
  obtain ⟨lx, hlx⟩ : ∃ lx, lx = (ws X).length := ⟨_, rfl⟩
  rw [← hlx] at hrX hcX1 hXl ⊢
  have r3 := r1.below hB3 lt1
  have b3 := b2.trans (hB3.mono s2)
  have HC := Lib.hid (copied (ws X) lx (n + 1) hlx.symm hXl)
  have hl1 : ((ws X).map uw).length = Nat.min lx (n + 1) := by rw [List.length_map, ← hlx]; exact (Nat.min_eq_left hXl).symm
  have HL1 := Lib.hid hl1
  have hf : 0 + ((ws X).map uw).length ≤ ((List.replicate (n + 1) 0).map uw).length := by simp [← hlx]; exact hXl
  have HF := Lib.hid hf
  have R3 := Lib.hid r3
  have HLX := Lib.hid hlx
  clear r1 r3 hl1 hf hlx lt1
  go_wp2_with (refine wpList_copy_splice (o := ⟨some 32, _, _, _, _, _⟩) rfl _ _ 31 31 rfl 81 Tryd.underlying31 size1W (some ⟨W1.heap.size, 0, none⟩) CX (n + 1) (n + 1) lx cX rfl rfl W1.heap.size 0 ((List.replicate (n + 1) 0).map uw) 81 R3.out ((ws X).map uw) HL1.out (Rd.src hrX) HF.out (map_one uw uw_one (ws X)) W1.heap.size W1 b3 (Nat.le_refl _) ?_; intro W4 HG4 hB4; refine Hid.out ?_)
  have r4 : Row W4 W1.heap.size 81 ((ws X ++ List.replicate (n + 1 - lx) 0).map uw) := HG4.out.trans (by rw [HC.out])
  have mk2 : Sem.run Tryd.prog (Instr.makeSlice 31 (.int .i64 ((j : Int) + 1)) (.int .i64 ((j : Int) + 1))) W4 = .ok (.slice (some ⟨W4.heap.size, 0, none⟩) (j + 1) (j + 1)) (W4.alloc (mkW (j + 1))) := makeW (j + 1) (by omega) W4
  have r5 := mkW_row (j + 1) W4
  have b5 := mkW_below (j + 1) W4
  have z5 : (W4.alloc (mkW (j + 1))).heap.size = W4.heap.size + 1 := by simp
  obtain ⟨Qb, hQb⟩ : ∃ Qb, Qb = W4.heap.size := ⟨_, rfl⟩
  obtain ⟨W5, hW5⟩ : ∃ W5, W5 = W4.alloc (mkW (j + 1)) := ⟨_, rfl⟩
  rw [← hW5] at mk2 r5 b5 z5
  rw [← hQb] at mk2 r5 b5 z5
  have mk3 : Sem.run Tryd.prog (Instr.makeSlice 31 (.int .i64 ((k : Int) + 2 + 1)) (.int .i64 ((k : Int) + 2 + 1))) W5 = .ok (.slice (some ⟨W5.heap.size, 0, none⟩) (k + 3) (k + 3)) (W5.alloc (mkW (k + 3))) := makeW (k + 3) (by omega) W5
  have r6 := mkW_row (k + 3) W5
  have b6 := mkW_below (k + 3) W5
  obtain ⟨Lb, hLb⟩ : ∃ Lb, Lb = W5.heap.size := ⟨_, rfl⟩
  obtain ⟨W6, hW6⟩ : ∃ W6, W6 = W5.alloc (mkW (k + 3)) := ⟨_, rfl⟩
  rw [← hW6] at mk3 r6 b6
  rw [← hLb] at mk3 r6 b6 z5
  have lt4 := r4.lt
  have hRb : W1.heap.size < Qb := by rw [hQb]; exact lt4
  have hQL : Qb < Lb := by rw [z5]; omega
  have k4 := (r4.below b5 (by omega)).below b6 (by omega)
  have k5 := r5.below b6 hQL
  have b7 : Below W1.heap.size W1 W6 := (hB4.trans (b5.mono (by omega))).trans (b6.mono (by omega))
  have HLb := Lib.hid z5
  obtain ⟨Rb, hRbe⟩ : ∃ Rb, Rb = W1.heap.size := ⟨_, rfl⟩
  rw [← hRbe] at k4 hRb
  clear r4 r5 b5 b6 lt4 hB4 HG4 HC HL1 HF R3 b3 hB3 b2 s2 hdy hcX1 hcX2 hrX hQb hLb hW5 hW6 z5
  refine Lib.hid ?_
  rw [← hRbe] at hrY b7 ⊢
  have hB1' : Below w.heap.size w W1 := hB1
  have hw1 : w.heap.size ≤ Rb := by rw [hRbe]; exact hB1.size
  have HRB := Lib.hid hRbe
  obtain ⟨rs0, hrs0⟩ : ∃ rs0, rs0 = ws X ++ List.replicate (n + 1 - lx) 0 := ⟨_, rfl⟩
  rw [← hrs0] at k4
  have q1 : rs0.length = n + 1 := by rw [hrs0, List.length_append, List.length_replicate, ← HLX.out]; omega
  have q2 : Dig 4294967296 rs0 := by rw [hrs0]; exact (ws_dig X).append (Dig.zeros (by decide) _)
  have q3 : val 4294967296 rs0 = x * p := by
    have := ws_val X
    unfold wval at this
    rw [hrs0, val_pad, this, HXD.out]
  have q4 := long_start (b := 4294967296) (by decide) HN.out HM.out HJ.out hp32.2 rs0 q3
  rw [← HXD.out, ← HYD.out] at q4
  have Q1 := Lib.hid q1
  have Q4 := Lib.hid q4
  have hyb : ∀ a, CY = some a → a.block < Rb := fun a e => by
    obtain ⟨a', e', h', -⟩ := hrY.2 (by omega)
    rw [e'] at e; cases e; exact h'
  have HYB := Lib.hid hyb
  clear hRbe hrs0 q1 q3 q4 hyb
  go_wp2_with fail
  go_step3
  go_wp2_with fail
  clear mk2 mk3
  go_loopw [9] (fun av wr => ∃ (t : Nat) (rs qs ls : List Nat), t ≤ j + 1 ∧ av = .int .i64 ((t : Int) - 1) ∧ Hid (rs.length = n + 1 ∧ qs.length = j + 1 ∧ ls.length = k + 3) ∧ Row wr Rb 81 (rs.map uw) ∧ Row wr Qb 81 (qs.map uw) ∧ Row wr Lb 81 (ls.map uw) ∧ Below Rb W1 wr ∧ Dig 4294967296 rs ∧ Dig 4294967296 qs ∧ Hid (LongSt 4294967296 X Y t rs qs)) (fun av _ => (intOf av + 1).toNat)
  case atStart => exact ⟨j + 1, rs0, List.replicate (j + 1) 0, List.replicate (k + 3) 0, Nat.le_refl _, by go_num, Lib.hid ⟨Q1.out, List.length_replicate .., List.length_replicate ..⟩, k4, k5, r6, b7, q2, Dig.zeros (by decide) _, Q4⟩
  case round =>
    clear k4 k5 r6 b7 q2 Q1 Q4
    obtain ⟨t, rs, qs, ls, ht, rfl, HLN, hR, hQ, hL, hB, hdr, hdq, HS⟩ := hrel
    cases t with
    | succ i =>
      have e1 : ((i + 1 : Nat) : Int) - 1 = (i : Int) := by omega
      rw [e1]
      clear e1
      have hin : i + (k + 3) ≤ n + 1 := by have := HJ.out; omega
      obtain ⟨ps, hps⟩ : ∃ ps, ps = (rs.drop i).take (k + 3) := ⟨_, rfl⟩
      have hpl : ps.length = k + 3 := by rw [hps, List.length_take, List.length_drop, HLN.out.1]; omega
      have hpd : Dig 4294967296 ps := by rw [hps]; exact (hdr.drop i).take _
      have hrp : ∀ V, Row V Rb 81 (rs.map uw) → Rd V V.heap.size (some ⟨Rb, i, none⟩) (k + 3) (ps.map uw) := fun V h =>
        ((h.rdAt i (k + 3) (by rw [List.length_map, HLN.out.1]; omega)).mono h.lt).cast rfl (by rw [hps, List.map_take, List.map_drop])
      have HRP := Lib.hid hrp
      have hYm : Y < 4294967296 ^ (k + 2) := by have := digs_lt (b := 4294967296) (by decide) Y; rw [show (digs 4294967296 Y).length = k + 2 from HYL.out] at this; exact this
      have hpart := long_part (m := k + 2) (by decide) HS.out HLN.out.1 (by omega) hYm
      rw [show k + 2 + 1 = k + 3 from rfl, ← hps] at hpart
      have hwY : val 4294967296 (ws Y) = Y := ws_val Y
      have hY0 : 0 < Y := by
        rcases Nat.eq_zero_or_pos Y with h | h
        · exfalso
          have := HYL.out
          rw [h] at this
          exact absurd this (by show ¬ ([] : List Nat).length = k + 2; simp)
        · exact h
      obtain ⟨q, hq⟩ : ∃ q, q = val 4294967296 ps / Y := ⟨_, rfl⟩
      have hqB : q < 4294967296 := by rw [hq, Nat.div_lt_iff_lt_mul hY0, Nat.mul_comm]; exact hpart.2.1
      have hgg := guess_ge 4294967296 (by decide) ps (ws Y) k hpd hpl HYL.out (by omega)
      rw [hwY, ← hq] at hgg
      have HGG := Lib.hid hgg
      have HQ := Lib.hid hq
      have HPS := Lib.hid hps
      have HPL := Lib.hid hpl
      have HPT := Lib.hid hpart
      have HYM := Lib.hid hYm
      have HWY := Lib.hid hwY
      have es : i + (k + 3) - i = k + 3 := by omega
      clear hps hpl hrp hpart hgg hq hYm hwY
      go_wp2_with fail
      refine (guess_any (some ⟨Rb, i, none⟩) CY k (n + 1 - i) dY ps (ws Y) (by omega) hpd (ws_dig Y) hYt wr (HRP.out _ hR) ((hrY.below hB).mono (by have := hR.lt; omega))).mono ?_
      rintro e V0 ⟨⟨dg, rfl, hdg⟩, ⟨nd, hV0⟩⟩
      have hqd : q ≤ dg ∧ dg < 4294967296 := by
        have := HGG.out
        unfold guessN at hdg
        rw [hdg]
        generalize (ps.getD (k + 2) 0 * 18446744073709551616 + (ps.getD (k + 1) 0 * 4294967296 + ps.getD k 0)) / ((ws Y).getD (k + 1) 0 * 4294967296 + (ws Y).getD k 0) = G at *
        change q ≤ G at this
        omega
      have bq : Below wr.heap.size wr V0 := by rw [hV0]; exact below_drewN (Below.refl _ _) nd
      have hR0 := hR.below bq hR.lt
      have hQ0 := hQ.below bq hQ.lt
      have hL0 := hL.below bq hL.lt
      have hB0 := hB.trans (bq.mono (by have := hR.lt; omega))
      rw [es]
      clear hdg hV0 bq hR hQ hL hB es
      go_wp2_with fail
      go_loopw [11] (fun dv V => ∃ (dg : Nat) (ls : List Nat), q ≤ dg ∧ dg < 4294967296 ∧ dv = .int .u32 dg ∧ Hid (ls.length = k + 3) ∧ Row V Rb 81 (rs.map uw) ∧ Row V Qb 81 (qs.map uw) ∧ Row V Lb 81 (ls.map uw) ∧ Below Rb W1 V) (fun dv _ => (intOf dv).toNat)
      case atStart => exact ⟨dg, ls, hqd.1, hqd.2, rfl, Lib.hid HLN.out.2.2, hR0, hQ0, hL0, hB0⟩
      case round =>
        have HLN2 := Lib.hid (And.intro HLN.out.1 HLN.out.2.1)
        clear hR0 hQ0 hL0 hB0 hqd HLN
        obtain ⟨dg, ls, hqd, hdB, rfl, HLS, hR, hQ, hL, hB⟩ := hrel
        have hLl := hL.lt
        have tt := takeTimes_any Lb (k + 3) (n + 1 - i) (k + 2) dY dg (some ⟨Rb, i, none⟩) CY ls ps (ws Y) (by omega) (by omega) hpd (ws_dig Y) hdB wr hL HLS.out (HRP.out _ hR) (fun a e => by cases e; show Rb ≠ Lb; omega) ((hrY.below hB).mono (by omega)) (fun a e => by have := HYB.out a e; omega)
        rw [ws_val] at tt
        have hmod := Nat.div_add_mod (val 4294967296 ps) Y
        have hmlt := Nat.mod_lt (val 4294967296 ps) hY0
        rw [← HQ.out] at hmod
        by_cases hde : dg = q
        · subst hde
          have hle : Y * dg ≤ wval ps := by show Y * dg ≤ val 4294967296 ps; omega
          rw [decide_eq_true hle] at tt
          have HLE := Lib.hid hle
          clear hmod hmlt hle
          go_wp2_with fail
          refine tt.mono ?_
          rintro e V1 ⟨⟨os, rfl, hLo, hol, hod, hov⟩, hBut⟩
          have hov2 := Lib.hid (hov HLE.out)
          have hR1 := hR.but hBut hR.lt (by omega)
          have hQ1 := hQ.but hBut hQ.lt (by omega)
          have hB1 := hB.trans (hBut.low.mono (by omega))
          have HOL := Lib.hid hol
          have hcl : (os.map uw).length = Nat.min (k + 3) (k + 3) := by rw [List.length_map, hol]; exact (Nat.min_self _).symm
          have HCL := Lib.hid hcl
          have hfit : i + (os.map uw).length ≤ (rs.map uw).length := by rw [List.length_map, List.length_map, hol, HLN2.out.1]; exact hin
          have HFT := Lib.hid hfit
          have hRo : Rd V1 V1.heap.size (some ⟨Lb, 0, none⟩) (os.map uw).length (os.map uw) := (hLo.rd _ rfl).mono hLo.lt
          clear tt hov hol hcl hfit hR hQ hL hB hBut hLl
          go_wp2_with (refine wpList_copy_but (o := ⟨some 72, _, _, _, _, _⟩) rfl _ _ 31 31 rfl 81 Tryd.underlying31 size1W Rb i (k + 3) (n + 1 - i) ⟨Lb, 0, none⟩ (k + 3) (k + 3) rfl rfl (rs.map uw) 81 hR1 (os.map uw) HCL.out hRo HFT.out (map_one uw uw_one os) ?_; intro V2 HG2 hB2; refine Hid.out ?_)
          have hR2 : Row V2 Rb 81 ((rs.take i ++ (os ++ rs.drop (i + (k + 3)))).map uw) := HG2.out.cast (by unfold splice; rw [List.length_map, HOL.out, List.map_append, List.map_append, List.map_take, List.map_drop])
          have hQ2 := hQ1.but hB2 hQ1.lt (by omega)
          have hL2 := hLo.but hB2 hLo.lt (by omega)
          have hB3 := hB1.trans hB2.low
          have f2 := hQ2.frozen i
          have c2 := hQ2.read uw (k := i) (by rw [HLN2.out.2]; omega)
          have hQ3 := hQ2.put uw (k := i) dg
          unfold uw at c2
          clear hR1 hQ1 hB1 hLo hRo hB2 HG2
          refine Lib.hid ?_
          go_wp2_with fail
          go_roundw
          case rel =>
            refine ⟨i, rs.take i ++ (os ++ rs.drop (i + (k + 3))), qs.set i dg, os, by omega, by go_num, Lib.hid ⟨?_, ?_, HOL.out⟩, hR2.other _ _ (by omega), hQ3, hL2.other _ _ (by omega), hB3.setCell (p := ⟨Qb, i, none⟩) (by show Rb ≤ Qb; omega) _, (hdr.take i).append (hod.append (hdr.drop _)), hdq.set _ hdB, Lib.hid ?_⟩
            · simp only [List.length_append, List.length_take, List.length_drop, HOL.out, HLN2.out.1]; omega
            · rw [List.length_set, HLN2.out.2]
            · have h := long_next (b := 4294967296) (m := k + 2) (q := dg) (os := os) (by decide) HS.out HLN2.out.1 (by omega) HYM.out (by rw [HLN2.out.2]; omega) HOL.out hdr (by rw [show k + 2 + 1 = k + 3 from rfl, ← HPS.out]; exact HQ.out) hY0 (by rw [show k + 2 + 1 = k + 3 from rfl, ← HPS.out]; exact hov2.out)
              exact h
          case measure => simp [intOf]
        · have hle : ¬ Y * dg ≤ wval ps := by
            show ¬ Y * dg ≤ val 4294967296 ps
            have : Y * (q + 1) ≤ Y * dg := Nat.mul_le_mul_left _ (by omega)
            rw [Nat.mul_add, Nat.mul_one] at this
            omega
          rw [decide_eq_false hle] at tt
          clear hmod hmlt hle
          have hqd2 : q + 1 ≤ dg := by omega
          obtain ⟨dg', rfl⟩ : ∃ dg', dg = dg' + 1 := ⟨dg - 1, by omega⟩
          have hdd : q ≤ dg' := by omega
          clear hde hqd hqd2
          go_wp2_with fail
          refine tt.mono ?_
          rintro e V1 ⟨⟨os, rfl, hLo, hol, hod, hov⟩, hBut⟩
          have hR1 := hR.but hBut hR.lt (by omega)
          have hQ1 := hQ.but hBut hQ.lt (by omega)
          have hB1 := hB.trans (hBut.low.mono (by omega))
          have HOL := Lib.hid hol
          clear tt hov hol hR hQ hL hB hBut hLl
          go_wp2_with fail
          go_roundw
          case rel => exact ⟨dg', os, hdd, by omega, by go_num, HOL, hR1, hQ1, hLo, hB1⟩
          case measure => simp [intOf]
    | zero =>
      have e1 : ((0 : Nat) : Int) - 1 = -1 := rfl
      rw [e1]
      clear e1
      have hfin : wval qs = x / y ∧ wval rs / p = x % y := by
        have h := HS.out
        rw [HXD.out, HYD.out, HP.out] at h
        have hy0 : 0 < y := by
          rcases Nat.eq_zero_or_pos y with h | h
          · exfalso
            have := HM.out
            rw [h] at this
            exact absurd this (by show ¬ ([] : List Nat).length = k + 2; simp)
          · exact h
        have h2 := long_end h hy0
        rw [← HP.out] at h2
        exact h2
      have HFIN := Lib.hid hfin
      have HRL := Lib.hid HLN.out.1
      have HQL := Lib.hid HLN.out.2.1
      clear hfin
      go_wp2_with fail
      refine (shortL_any (some ⟨Rb, 0, none⟩) (n + 1) (n + 1) p rs (by omega) hdr hp32.2 hp32.1 wr ((hR.rd (n + 1) (by rw [List.length_map, HRL.out])).mono hR.lt)).mono ?_
      rintro e V1 ⟨⟨v, r, rfl, hv, hr⟩, hB9⟩
      have HRR := Lib.hid hr
      have hQ1 := hQ.below hB9 hQ.lt
      have hB10 := hB.trans (hB9.mono (by have := hR.lt; omega))
      clear hr
      go_wp2_with fail
      refine (trim_any (some ⟨Qb, 0, none⟩) (j + 1) (j + 1) V1.heap.size qs (Nat.le_refl _) (by unfold maxLen; omega) hdq V1 ((hQ1.rd (j + 1) (by rw [List.length_map, HQL.out])).mono hQ1.lt)).mono ?_
      rintro e V2 ⟨⟨u, rfl, hu⟩, rfl⟩
      go_wp2_with fail
      first | (rw [Exit.noGoto_ret]; go_ret2) | go_ret2
      rw [HFIN.out.1] at hu
      rw [HFIN.out.2] at hv
      exact ⟨⟨u, v, rfl, hu, hv⟩, hB1.trans (hB10.mono hw1)⟩
end Go.Proofs.YtmpdoikdadjneaaDoor
