/- What Bytes and Pair answer, and that they write nothing that was there. -/
import Derived.Test.YtagjecbgbpjobaaHsum
import Derived.Test.YtagjecbgbpjobaaHinfo
import Derived.Maps.AppendAt
namespace Go.Proofs.Ytagjecbgbpjobaa
open Go.RowKit Go.Shelf Hm Hb
attribute [local go_sem] Oper.semAt_some

set_option maxRecDepth 100000 in
set_option maxHeartbeats 2000000 in
theorem bytes_any (s : ByteArray) (hs : s.size ≤ 140737488351232) (A : Option Addr) (m c : Nat) (bs : List UInt8) (hm : m ≤ 140737488351232) (hmc : m ≤ c) (w : World) (hr : Rd w w.heap.size A m (bs.map bv)) :
    Calls Try.prog 49 #[.string s, .slice A m c] w fun e W' => e = .returned (.int .u64 (bytesM s.data.toList bs)) ∧ Below w.heap.size w W' := by
  obtain ⟨i0, hi, hz0, hz1, hz2⟩ := info_parts infoI
  refine (callsIn_wide (n := 8)).1 ?_
  refine callsIn_of_wp_marks Try.func49 rfl trivial ?_ rfl
  simp only [Try.ntmps49, List.size_toArray, List.length_cons, List.length_nil, Nat.reduceAdd, Nat.reduceSub, Array.replicate_succ, Array.replicate_zero, List.push_toArray, List.append_toArray, List.nil_append, List.cons_append]
  have hlenz : bs.length = m := by simpa using hr.1
  have HL := Lib.hid hlenz
  clear hlenz
  gi_wp2_with (first | (gi_at_make; refine wpListIn_make_own _ rfl _ _ 37 rfl w.heap.size 3 i0 (.int .i64 0) 1 Try.underlying37 hi hz0 hz1 .i64 .i64 _ (m / 8 + 2) rfl rfl (by simp) (by rw [hz2]; omega) (by unfold maxLen; omega) (Nat.le_refl _) ?_; intro W0 hown0 hgrow0) | (refine ⟨trivial, ?_⟩; gi_at_call 67; refine (wordsOf_b _ _ _ _ _).mono ?_; rintro e w' ⟨rfl, rfl⟩))
  have hBW : Below w.heap.size w W0 := (Below.refl _ _).grown hgrow0 (Nat.le_refl _) (by simp)
  have bV := Boxed.new W0 37 (.slice (some ⟨w.heap.size, 0, none⟩) 0 (m / 8 + 2))
  have bN := Boxed.new (W0.alloc (.cells #[.slice (some ⟨w.heap.size, 0, none⟩) 0 (m / 8 + 2)] 37)) 22 (.slice A m c)
  rw [World.size_alloc] at bN
  have hB0 : Below w.heap.size w ((W0.alloc (.cells #[.slice (some ⟨w.heap.size, 0, none⟩) 0 (m / 8 + 2)] 37)).alloc (.cells #[.slice A m c] 22)) := (hBW.alloc hBW.size _).alloc (by have := hBW.size; simp; omega) _
  have hsz := hBW.size
  refine wpIn_rangeFunc_ownF rfl (by omega) (gf := 74) (lb := #[.pointer (some ⟨W0.heap.size + 1, 0, none⟩)]) rfl trivial (enters_of Try.func74 (by kernel_rfl) rfl)
    (stops_b 7 (by omega) (W0.heap.size + 1) w.heap.size A m c bs hm hmc _ (by simp) (by simp; omega) bN (hr.below hB0)) keepBox_t (keepBox_b (by simp; omega) (by simp)) (Below.refl _ _) (fun _ => rfl)
    (fun (pre : List Int) W => ((∃ v, Boxed W W0.heap.size 37 v ∧ W.ownsRow w.heap.size 3 1 v pre.length (pre.map fun x => iv (wrap64 x)) ∧ True) ∧ Boxed W (W0.heap.size + 1) 22 (.slice A m c)) ∧ Below w.heap.size w W)
    (fun _ _ _ => False)
    (OwnFrom.and (OwnFrom.and (Own.from (holdsRow_own w.heap.size W0.heap.size 37 3 1 (fun (pre : List Int) => pre.length) (fun (pre : List Int) => pre.map fun x => iv (wrap64 x)) (fun _ _ => True)) _) (Own.from (boxed_own _ _ (fun _ => .slice A m c)) _)) (ownFrom_below (Nat.le_refl _) (by simp; omega)))
    (fun _ _ _ _ _ hs _ _ => hs)
    ⟨⟨⟨_, bV.alloc _, (hown0.alloc _).alloc _, trivial⟩, bN⟩, hB0⟩
    (fun x => { tmps := #[Value.string s, .slice A m c, undef, undef, .int .u64 0, .pointer (some ⟨W0.heap.size, 0, none⟩), .int .u64 x, .slice A m c, .int .i64 (m : Int), .int .i64 ((m : Int) / 8), .int .i64 ((m : Int) / 8 + 2), .slice (some ⟨w.heap.size, 0, none⟩) 0 (m / 8 + 2), .slice A m c, .func (.func 74) #[] #[.pointer (some ⟨W0.heap.size + 1, 0, none⟩)], .int .u64 x, undef, undef, undef, undef, undef, undef, undef, undef, undef, undef, undef, undef], defers := [] }) ?assign ?body ?done ?stop
  case assign =>
    intro l x W K hK
    gi_wp2
    exact hK
  case body =>
    rintro l pre x W ⟨⟨⟨v, hv, hrow, _⟩, hbN⟩, hB⟩ hlt
    have hc := hv.cell
    have hpl : pre.length ≤ m / 8 + 1 := by rw [HL.out] at hlt; unfold nw at hlt; omega
    gi_wp2_with (gi_at_builtin; refine wpListIn_append_own _ rfl _ _ 37 rfl w.heap.size 3 i0 (.int .i64 0) 1 8 Try.underlying37 hi hz0 hz1 hz2 rfl (by decide) v _ _ rfl (hrow.alloc _) ⟨W.heap.size, 0, none⟩ 1 1 [iv (wrap64 x)] rfl rfl (cell_one_new _ _ _) (by simp [iv_one]) (by unfold maxLen; omega) (by omega) (by have := hB.size; simp; omega) ?_; intro v' w1 hown' hgrow _; obtain ⟨g', cap', rfl⟩ := ownsRow_succ hown'; obtain ⟨hv1, hv2, hr2, hk2, hb2⟩ := hv.appended (by decide) hrow hB.size hsz hown' hgrow; have hc1 := hv1.cell; have hf1 := hv1.frozen)
    have hbN2 : Boxed (w1.setCell ⟨W0.heap.size, 0, none⟩ (.slice (some ⟨g', 0, none⟩) (pre.length + 1) cap')) (W0.heap.size + 1) 22 (.slice A m c) := ((hbN.alloc _).kept hgrow (hbN.not_row (by decide) hrow)).other (by omega) _
    exact ⟨hk2, ⟨hb2, hbN2.trans hbN.symm⟩, ⟨⟨_, hv2, own_cast hr2 (by simp) (by simp), trivial⟩, hbN2⟩, hB.trans hb2⟩
  case done =>
    rintro D ys W hD rfl ⟨⟨⟨v, hv, hrow, _⟩, hbN⟩, hB⟩ hK
    have hc := hv.cell
    have hn : (wl bs).length = nw m := by rw [wl_length, HL.out]
    have hnb : (wl bs).length * 8 ≤ m + 7 := by rw [hn]; unfold nw; omega
    clear hn
    have hlen : ((wl bs).map wrap64 ++ [(m : Int)]).length = (wl bs).length + 1 := by simp
    have HLEN := Lib.hid hlen
    clear hlen
    have hWs : w.heap.size ≤ W.heap.size := hB.size
    gi_wp2_with (first | (gi_at_builtin; refine wpListIn_append_own _ rfl _ _ 37 rfl w.heap.size 3 i0 (.int .i64 0) 1 8 Try.underlying37 hi hz0 hz1 hz2 rfl (by decide) v _ _ rfl (hrow.alloc _) ⟨W.heap.size, 0, none⟩ 1 1 [iv (m : Int)] rfl rfl (cell_one_new _ _ _) (by simp [iv_one]) (by unfold maxLen; omega) (by omega) (by simp; omega) ?_; intro v' w1 hown' hgrow _; obtain ⟨g', cap', rfl⟩ := ownsRow_succ hown'; have hRd := (Rd.of_own hown').cast (ys := ((wl bs).map wrap64 ++ [(m : Int)]).map iv) rfl (by simp)) | (refine ⟨trivial, ?_⟩; gi_at_call 51; refine (callsIn_wide.2 (sum_any s hs _ _ _ _ (by omega) _ hRd)).mono ?_; rintro e W2 ⟨rfl, hB2⟩))
    have hD1 : w1.heap[D]? = some (.deferred (some [])) := by
      have hlt := (Array.getElem?_eq_some_iff.1 hK).1
      refine (hgrow.block D (by simp; omega) (fun e => ?_)).trans ((Below.heap_alloc _ _ _ hlt).trans hK)
      rcases hrow.2 with ⟨rfl, _⟩ | ⟨g, cap, cur, rfl, _, hgb, _⟩
      · simp [Value.ownBlock] at e
      · obtain rfl : D = g := by simpa [Value.ownBlock] using e
        rw [hgb] at hK; cases hK
    have hlt1 := (Array.getElem?_eq_some_iff.1 hD1).1
    have hD2 : W2.heap[D]? = some (.deferred (some [])) := (hB2.block D hlt1).trans hD1
    have hB1 : Below w.heap.size w w1 := own_grown (hB.alloc hB.size _) (hrow.alloc _) hgrow (by simp; omega)
    have hres : sumM s.data.toList ((wl bs).map wrap64 ++ [(m : Int)]) = bytesM s.data.toList bs := by unfold bytesM; rw [HL.out]
    rw [← hres]
    refine ⟨by simp, .inl ⟨_, _, rfl, run_takeDeferred hD2, ?_⟩⟩
    exact ⟨_, results_tmp rfl _ _ _, rfl, (hB1.trans (hB2.mono hB1.size)).trans (belowK_b (w := w) (Nat.le_refl _) _ D _ _ (by simp at hD; omega) hD2 rfl rfl)⟩
  case stop =>
    rintro D c pre W _ _ h _
    exact h.elim

end Go.Proofs.Ytagjecbgbpjobaa
