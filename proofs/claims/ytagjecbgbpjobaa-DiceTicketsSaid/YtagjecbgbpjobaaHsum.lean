/- What Sum answers for every label and every list of integers, and that it writes nothing that was there. -/
import Derived.Test.YtagjecbgbpjobaaHiter
namespace Go.Proofs.Ytagjecbgbpjobaa
open Go.RowKit Go.Shelf Hm Hb
attribute [local go_sem] Oper.semAt_some

set_option maxRecDepth 100000 in
set_option maxHeartbeats 2000000 in
theorem sum_any (s : ByteArray) (hs : s.size ≤ 140737488351232) (A : Option Addr) (m c : Nat) (zs : List Int) (hm : m ≤ 140737488351232) (w : World) (hr : Rd w w.heap.size A m (zs.map iv)) :
    Calls Try.prog 51 #[.string s, .slice A m c] w fun e W' => e = .returned (.int .u64 (sumM s.data.toList zs)) ∧ Below w.heap.size w W' := by
  refine (callsIn_wide (n := 8)).1 ?_
  refine callsIn_of_wp_marks Try.func51 rfl trivial ?_ rfl
  simp only [Try.ntmps51, List.size_toArray, List.length_cons, List.length_nil, Nat.reduceAdd, Nat.reduceSub, Array.replicate_succ, Array.replicate_zero, List.push_toArray, List.append_toArray, List.nil_append, List.cons_append]
  gi_wp2_with (refine ⟨trivial, ?_⟩; gi_at_call 69; refine (wordsOf_s _ _ _).mono ?_; rintro e w' ⟨rfl, rfl⟩)
  have bS := Boxed.new w 24 (.int .u64 0)
  have bN := Boxed.new (w.alloc (.cells #[.int .u64 0] 24)) 9 (.string s)
  rw [World.size_alloc] at bN
  have hB0 : Below w.heap.size w ((w.alloc (.cells #[.int .u64 0] 24)).alloc (.cells #[.string s] 9)) := ((Below.refl _ w).alloc (Nat.le_refl _) _).alloc (by simp) _
  refine wpIn_rangeFunc_ownF rfl (by omega) (gf := 76) (lb := #[.pointer (some ⟨w.heap.size + 1, 0, none⟩)]) rfl trivial (enters_of Try.func76 (by kernel_rfl) rfl)
    (stops_s 7 (by omega) (w.heap.size + 1) w.heap.size s hs _ (by simp) bN) keepBox_t (keepBox_b (by simp; omega) (by simp)) (Below.refl _ _) (fun _ => rfl)
    (fun pre W => Boxed W w.heap.size 24 (.int .u64 (UI (fold 0#64 pre))) ∧ Below w.heap.size w W)
    (fun _ _ _ => False)
    (OwnFrom.and (Own.from (boxed_own _ _ _) _) (ownFrom_below (Nat.le_refl _) (by simp; omega)))
    (fun _ _ _ _ _ hs _ _ => hs)
    ⟨bS.alloc _, hB0⟩
    (fun x => { tmps := #[.string s, .slice A m c, undef, undef, .int .u64 0, .pointer (some ⟨w.heap.size, 0, none⟩), .int .u64 x, undef, undef, .string s, .func (.func 76) #[] #[.pointer (some ⟨w.heap.size + 1, 0, none⟩)], .int .u64 x, undef, undef, undef, undef, undef, undef, undef, undef, undef, undef, undef, undef, undef, undef, undef, undef, undef, undef, undef, undef, undef, undef, undef, undef, undef, undef], defers := [] }) ?assign ?body ?done ?stop
  case assign =>
    intro l x W K hK
    gi_wp2
    exact hK
  case body =>
    rintro l pre x W ⟨hv, hB⟩ _
    have hc := hv.cell
    have hf := hv.frozen
    gi_wp2_with (refine ⟨trivial, ?_⟩; gi_at_call 70; refine (CallsIn.inRound l (callsIn_wide.2 (mix_any _ _ _))).mono ?_; rintro e w' ⟨rfl, rfl⟩)
    refine ⟨KeepsOthers.setCell _ _ _, ⟨(Below.refl w.heap.size W).setCell (p := ⟨w.heap.size, 0, none⟩) (Nat.le_refl _) _, Below.heap_setCell _ _ _ _ (by simp)⟩, ?_, hB.setCell (p := ⟨w.heap.size, 0, none⟩) (Nat.le_refl _) _⟩
    rw [fold_snoc, ← mixI_UI]
    exact hv.set _
  case done =>
    rintro D ys W hD rfl ⟨hv, hB⟩ hK
    have hc := hv.cell
    have hf := hv.frozen
    gi_wp2_with (refine ⟨trivial, ?_⟩; gi_at_call 70; refine (callsIn_wide.2 (mix_any _ _ _)).mono ?_; rintro e w' ⟨rfl, rfl⟩)
    obtain ⟨st0, hst0⟩ : ∃ st0, st0 = mixB (mixB (fold 0#64 (wl s.data.toList)) (BI s.size)) (BI m) := ⟨_, rfl⟩
    have e0 : mixI (mixI (UI (fold 0#64 (wl s.data.toList))) s.size) m = UI st0 := by rw [mixI_UI, mixI_UI, hst0]
    have hlenz : zs.length = m := by simpa using hr.1
    have E0 := Lib.hid e0
    have HST := Lib.hid hst0
    have HL := Lib.hid hlenz
    clear e0 hst0 hlenz
    gi_loopw [27] (fun p wr => ∃ k : Nat, k ≤ m ∧ p = .int .i64 k ∧ Boxed wr w.heap.size 24 (.int .u64 (UI (fold st0 (zs.take k)))) ∧ Below w.heap.size w wr ∧ wr.heap[D]? = some (.deferred (some [])))
      (fun p _ => m - (intOf p).toNat)
    case atStart =>
      refine ⟨0, Nat.zero_le _, rfl, ?_, (hB.setCell (p := ⟨w.heap.size, 0, none⟩) (Nat.le_refl _) _).setCell (p := ⟨w.heap.size, 0, none⟩) (Nat.le_refl _) _, (KeepsOthers.setCell _ _ _).same D _ ((KeepsOthers.setCell _ _ _).same D _ hK rfl) rfl⟩
      rw [List.take_zero, E0.out]
      exact (hv.set _).set _
    case round =>
      obtain ⟨k, hk, rfl, hv, hB, hK⟩ := hrel
      have hc := hv.cell
      have hf := hv.frozen
      by_cases hlt : k < m
      · obtain ⟨a, u, rfl, hab, hu, hcz⟩ := (hr.below hB).at hlt
        have hz : k < zs.length := by rw [HL.out]; exact hlt
        have hu' : u = .int .i64 zs[k] := by
          rw [List.getElem?_map, List.getElem?_eq_getElem hz] at hu
          exact (Option.some.inj hu).symm
        subst hu'
        have HT := Lib.hid (show zs.take (k + 1) = zs.take k ++ [zs[k]] from List.take_succ_eq_append_getElem hz)
        clear hu
        gi_wp2_with (refine ⟨trivial, ?_⟩; gi_at_call 70; refine (callsIn_wide.2 (mix_any _ _ _)).mono ?_; rintro e w' ⟨rfl, rfl⟩)
        go_roundw
        case rel =>
          refine ⟨k + 1, by omega, by go_num, ?_, hB.setCell (p := ⟨w.heap.size, 0, none⟩) (Nat.le_refl _) _, (KeepsOthers.setCell _ _ _).same D _ hK rfl⟩
          rw [HT.out, fold_snoc, ← BI_wrapU, ← mixI_UI]
          exact hv.set _
        case measure => simp [intOf]; omega
      · obtain rfl : k = m := by omega
        gi_wp2_with (refine ⟨trivial, ?_⟩; gi_at_call 70; refine (callsIn_wide.2 (mix_any _ _ _)).mono ?_; rintro e w' ⟨rfl, rfl⟩)
        refine ⟨by simp, .inl ⟨_, _, rfl, run_takeDeferred hK, ?_⟩⟩
        have hres : mixI (UI (fold st0 (zs.take k))) 0 = sumM s.data.toList zs := by
          unfold sumM sumB
          rw [mixI_UI, List.take_of_length_le (by rw [HL.out]; exact Nat.le_refl _), HST.out, Array.length_toList, HL.out]
          rfl
        rw [← hres]
        exact ⟨_, results_tmp rfl _ _ _, rfl, hB.trans (belowK_b (w := w) (Nat.le_refl _) _ D _ _ (by simp at hD; omega) hK rfl rfl)⟩
  case stop =>
    rintro D c pre W _ _ h _
    exact h.elim
end Go.Proofs.Ytagjecbgbpjobaa
