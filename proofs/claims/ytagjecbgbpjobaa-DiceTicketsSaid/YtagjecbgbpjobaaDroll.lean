/- What Roll answers. -/
import Derived.Test.YtagjecbgbpjobaaDwords
namespace Go.Proofs.Ytagjecbgbpjobaa
open Go.RowKit Go.Shelf Hm Hb Dm Ds
attribute [local go_sem] Oper.semAt_some

/-- two results: a number and an error -/
def numErr (x e : Int) : Ending := .returned (.tuple #[.int .i64 x, .int .i64 e])

theorem box3 (w : World) (x y z : Value) (t t' t'' : TypeId) : Boxed (((w.alloc (.cells #[x] t)).alloc (.cells #[y] t')).alloc (.cells #[z] t'')) w.heap.size t x ∧
    Boxed (((w.alloc (.cells #[x] t)).alloc (.cells #[y] t')).alloc (.cells #[z] t'')) (w.heap.size + 1) t' y ∧ Boxed (((w.alloc (.cells #[x] t)).alloc (.cells #[y] t')).alloc (.cells #[z] t'')) (w.heap.size + 1 + 1) t'' z ∧
    Below w.heap.size w (((w.alloc (.cells #[x] t)).alloc (.cells #[y] t')).alloc (.cells #[z] t'')) := by
  have b1 := Boxed.new w t x
  have b2 := Boxed.new (w.alloc (.cells #[x] t)) t' y
  have b3 := Boxed.new ((w.alloc (.cells #[x] t)).alloc (.cells #[y] t')) t'' z
  simp only [World.size_alloc] at b2 b3
  exact ⟨(b1.alloc _).alloc _, b2.alloc _, b3, (((Below.refl _ w).alloc (Nat.le_refl _) _).alloc (by simp) _).alloc (by simp; omega) _⟩

theorem set2 {W : World} {B : Nat} {t t' : TypeId} {x y : Value} (k2 : Boxed W (B + 1) t x) (k3 : Boxed W (B + 1 + 1) t' y) (u v : Value) :
    Boxed ((W.setCell ⟨B + 1, 0, none⟩ u).setCell ⟨B + 1 + 1, 0, none⟩ v) (B + 1) t u ∧ Boxed ((W.setCell ⟨B + 1, 0, none⟩ u).setCell ⟨B + 1 + 1, 0, none⟩ v) (B + 1 + 1) t' v ∧
    Below B W ((W.setCell ⟨B + 1, 0, none⟩ u).setCell ⟨B + 1 + 1, 0, none⟩ v) :=
  ⟨(k2.set u).other (by omega) v, (k3.other (by omega) u).set v, ((Below.refl B W).setCell (p := ⟨B + 1, 0, none⟩) (by show B ≤ B + 1; omega) u).setCell (p := ⟨B + 1 + 1, 0, none⟩) (by show B ≤ B + 1 + 1; omega) v⟩

set_option maxRecDepth 100000 in
set_option maxHeartbeats 2000000 in
theorem roll_any (n : Int) (hn : -9223372036854775808 ≤ n ∧ n ≤ 9223372036854775807) (p b : Nat) (h q : Int) (w : World) (d : Die w p b h q) :
    Calls Try.prog 27 #[.pointer (some ⟨p, 0, none⟩), .int .i64 n] w fun e W' => e = numErr (roll h n q).1 (roll h n q).2.1 ∧ Die W' p b h (roll h n q).2.2 ∧ But w.heap.size p w W' := by
  have hp := d.lt
  have hbp := d.1
  by_cases h1 : 1 ≤ n
  · refine (callsIn_wide (n := 8)).1 ?_
    refine callsIn_of_wp_marks Try.func27 rfl trivial ?_ rfl
    simp only [Try.ntmps27, List.size_toArray, List.length_cons, List.length_nil, Nat.reduceAdd, Nat.reduceSub, Array.replicate_succ, Array.replicate_zero, List.push_toArray, List.append_toArray, List.nil_append, List.cons_append]
    obtain ⟨x1, x2, x3, x4⟩ := box3 w (.int .i64 n) (.int .i64 0) (.int .i64 0) 3 3 47
    have d0 := d.below x4 hp
    have s0 : (((w.alloc (.cells #[.int .i64 n] 3)).alloc (.cells #[.int .i64 0] 3)).alloc (.cells #[.int .i64 0] 47)).heap.size = w.heap.size + 3 := by simp
    gi_wp2
    obtain ⟨w0, hw0⟩ : ∃ w0, w0 = (((w.alloc (.cells #[.int .i64 n] 3)).alloc (.cells #[.int .i64 0] 3)).alloc (.cells #[.int .i64 0] 47)) := ⟨_, rfl⟩
    rw [← hw0] at x1 x2 x3 x4 d0 s0 ⊢
    clear hw0
    have hmiss : ∀ (W : World), Die W p b h (far q 128) → But w.heap.size p w W → (∀ j, j < 128 → acc (wordI h (far q j)) n = false) → numErr 0 4 = numErr (roll h n q).1 (roll h n q).2.1 ∧ Die W p b h (roll h n q).2.2 ∧ But w.heap.size p w W := fun W k1 k2 k3 => by
      rw [roll_miss h n q h1 k3]; exact ⟨rfl, k1, k2⟩
    refine wpIn_rangeFunc_seq rfl (by omega) (gf := 57) (bd := #[.pointer (some ⟨p, 0, none⟩)]) (lb := #[]) rfl trivial (enters_of Try.func57 (by kernel_rfl) rfl)
      (encs := fun k => #[.int .u64 (wordI h (far q k))]) (N := 128) (p := p) (Kp := keepDie p b) (St := fun k W => Die W p b h (far q k)) (by omega) (words_seq 7 (by omega) p b h q)
      (fun k1 k2 => ⟨k2.1.trans k1.1, k2.2.trans k1.2⟩) (fun A B k => ⟨k.block p (by omega), k.block b (by omega)⟩) (fun k A B k1 k2 => k1.below k2 (by omega)) d0 (fun _ => rfl)
      (fun k W => (Boxed W w.heap.size 3 (.int .i64 n) ∧ Boxed W (w.heap.size + 1) 3 (.int .i64 0) ∧ Boxed W (w.heap.size + 1 + 1) 47 (.int .i64 0)) ∧ But w.heap.size p w W ∧ ∀ j, j < k → acc (wordI h (far q j)) n = false)
      (fun c k W => c = .ret ∧ ∃ j, k = j + 1 ∧ Boxed W (w.heap.size + 1) 3 (.int .i64 (wordI h (far q j) % n)) ∧ Boxed W (w.heap.size + 1 + 1) 47 (.int .i64 0) ∧ But w.heap.size p w W ∧ Die W p b h (far q k) ∧ (∀ i, i < j → acc (wordI h (far q i)) n = false) ∧ acc (wordI h (far q j)) n = true)
      ?hI ?hIx ⟨⟨x1, x2, x3⟩, But.of_below x4 (by omega), fun j hj => absurd hj (by omega)⟩
      (fun k => { tmps := #[.pointer (some ⟨p, 0, none⟩), .int .i64 n, undef, .pointer (some ⟨w.heap.size, 0, none⟩), .pointer (some ⟨w.heap.size + 1, 0, none⟩), .pointer (some ⟨w.heap.size + 1 + 1, 0, none⟩), .int .u64 (wordI h (far q k)), undef, undef, .int .i64 n, .bool (decide (n < 1)), .pointer (some ⟨p, 0, none⟩), .func (.func 57) #[.pointer (some ⟨p, 0, none⟩)] #[], .int .u64 (wordI h (far q k)), undef, undef, undef, undef, undef, undef, undef, undef], defers := [] }) ?assign ?body ?done ?stop
    case hI =>
      rintro k A B hA ⟨⟨k1, k2, k3⟩, k4, k5⟩ hAB
      exact ⟨⟨hAB.boxed k1 (by omega) (by omega), hAB.boxed k2 (by omega) (by omega), hAB.boxed k3 (by omega) (by omega)⟩, k4.trans (hAB.mono (by omega)), k5⟩
    case hIx =>
      rintro c k A B ⟨k0, j, k1, k2, k3, k4, k5, k6⟩ hAB
      exact ⟨k0, j, k1, (hAB.block _ (by omega)).trans k2, (hAB.block _ (by omega)).trans k3, k4.trans (But.of_below (hAB.mono (by omega)) (by omega)), k5.below hAB (by omega), k6⟩
    case assign =>
      intro l k W K hK
      gi_wp2
      exact hK
    case body =>
      rintro l k W hW ⟨⟨k1, k2, k3⟩, k4, k5⟩ dk hk
      have c1 := k1.cell
      have c2 := k2.cell
      have c3 := k3.cell
      have f2 := k2.frozen
      have f3 := k3.frozen
      by_cases ha : acc (wordI h (far q k)) n = true
      · have hr := reduce_any (wordI h (far q k)) n (wordI_range _ _) hn W
        rw [redR_in h1 ha] at hr
        gi_wp2_with (refine ⟨trivial, ?_⟩; gi_at_call 24; refine (CallsIn.inRound l (callsIn_wide.2 hr)).mono ?_; rintro e w' ⟨rfl, rfl⟩)
        obtain ⟨k2', k3', kb⟩ := set2 k2 k3 (.int .i64 (wordI h (far q k) % n)) (.int .i64 0)
        exact ⟨(KeepsOthers.setCell _ _ _).trans (KeepsOthers.setCell _ _ _), rfl, k, rfl, k2', k3', k4.later kb (Nat.le_refl _) (by omega), dk.below kb hp, k5, ha⟩
      · have ha' : acc (wordI h (far q k)) n = false := by simpa using ha
        have hr := reduce_any (wordI h (far q k)) n (wordI_range _ _) hn W
        rw [redR_out ha'] at hr
        gi_wp2_with (refine ⟨trivial, ?_⟩; gi_at_call 24; refine (CallsIn.inRound l (callsIn_wide.2 hr)).mono ?_; rintro e w' ⟨rfl, rfl⟩)
        refine ⟨KeepsOthers.refl _, ⟨rfl, rfl⟩, ⟨k1, k2, k3⟩, k4, fun j hj => ?_⟩
        by_cases hjk : j < k
        · exact k5 j hjk
        · obtain rfl : j = k := by omega
          exact ha'
    case done =>
      rintro D W hD ⟨⟨k1, k2, k3⟩, k4, k5⟩ dk hK
      have c2 := k2.cell
      have c3 := k3.cell
      have f2 := k2.frozen
      have f3 := k3.frozen
      gi_wp2
      obtain ⟨k2', k3', kb⟩ := set2 k2 k3 (.int .i64 0) (.int .i64 4)
      have hK2 := ((KeepsOthers.setCell W ⟨w.heap.size + 1, 0, none⟩ (.int .i64 0)).trans (KeepsOthers.setCell _ ⟨w.heap.size + 1 + 1, 0, none⟩ (.int .i64 4))).same D _ hK rfl
      refine ⟨by simp, .inl ⟨_, _, rfl, run_takeDeferred hK2, ?_⟩⟩
      have bD : ∀ (V : World) o, Below (w.heap.size + 3) V (V.putObj D o) := fun V o => putObj_below V o (by omega)
      exact ⟨_, results_cell2 _ _ rfl rfl rfl Try.underlying3 Try.underlying47 rfl rfl (Boxed.cell (((bD _ _).block _ (by omega)).trans k2')) (Boxed.cell (((bD _ _).block _ (by omega)).trans k3')),
        hmiss _ ((dk.below kb hp).below (bD _ _) (by omega)) ((k4.later kb (Nat.le_refl _) (by omega)).later ((bD _ _).mono (by omega)) (Nat.le_refl _) (by omega)) k5⟩
    case stop =>
      rintro D c k W hD hk ⟨rfl, j, hj, k2, k3, k4, k5, k6, k7⟩ hK
      obtain rfl : k = j := by omega
      gi_wp2
      refine ⟨by simp, .inl ⟨_, _, rfl, run_takeDeferred hK, ?_⟩⟩
      have bD : ∀ (V : World) o, Below (w.heap.size + 3) V (V.putObj D o) := fun V o => putObj_below V o (by omega)
      rw [roll_hit h n q k h1 hk k6 k7]
      exact ⟨_, results_cell2 _ _ rfl rfl rfl Try.underlying3 Try.underlying47 rfl rfl (Boxed.cell (((bD _ _).block _ (by omega)).trans k2)) (Boxed.cell (((bD _ _).block _ (by omega)).trans k3)),
        rfl, k5.below (bD _ _) (by omega), k4.later ((bD _ _).mono (by omega)) (Nat.le_refl _) (by omega)⟩
  · rw [roll_arg h n q (by omega)]
    refine (callsIn_wide (n := 8)).1 ?_
    refine callsIn_of_wp_marks Try.func27 rfl trivial ?_ rfl
    simp only [Try.ntmps27, List.size_toArray, List.length_cons, List.length_nil, Nat.reduceAdd, Nat.reduceSub, Array.replicate_succ, Array.replicate_zero, List.push_toArray, List.append_toArray, List.nil_append, List.cons_append]
    obtain ⟨x1, x2, x3, x4⟩ := box3 w (.int .i64 n) (.int .i64 0) (.int .i64 1) 3 3 47
    gi_wp2
    exact ⟨_, results_cell2 _ _ rfl rfl rfl Try.underlying3 Try.underlying47 rfl rfl x2.cell x3.cell, rfl, d.below x4 hp, But.of_below x4 (by omega)⟩
end Go.Proofs.Ytagjecbgbpjobaa
