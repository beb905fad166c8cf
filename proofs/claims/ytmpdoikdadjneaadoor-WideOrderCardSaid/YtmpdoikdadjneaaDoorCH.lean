/- What From and Small answer. -/
import Derived.Test.YtmpdoikdadjneaaDoorCG
import Derived.Test.YtmpdoikdadjneaaDoorCE
import Derived.Test.YtmpdoikdadjneaaDoorCD
import Derived.Lib.ItoaWalk
import Derived.Lib.RabinKarpLaws
import Derived.Shelf.RegionOpenPlain
import Derived.Deep.LoopGhost
import Derived.Sort.WalkB12
import Derived.Lib.SlicesMore
import Derived.Laws.BytesArg
namespace Go.Proofs.YtmpdoikdadjneaaDoor
open Go.RowKit Go.Shelf Hb Vm Ds Vr

theorem two_words (V : Nat) : wval [V % 4294967296, V / 4294967296] = V := by
  have : wval [V % 4294967296, V / 4294967296] = V % 4294967296 + 4294967296 * (V / 4294967296) := by simp [wval, Vm.val]
  rw [this]; exact Nat.mod_add_div _ _
theorem from_tail (V lo hi : Nat) (hlo : lo = V % 4294967296) (hhi : hi = V / 4294967296) (hV : V < 18446744073709551616) (w w2 : World)
    (hw2 : w2 = (w.alloc (.cells #[.bool false, .slice none 0 0] 33)).alloc (.cells #[.int .u32 (lo : Int), .int .u32 (hi : Int)] 81)) :
    Row w2 w.heap.size 33 [.bool false, .slice none 0 0] ∧ Below w.heap.size w w2 ∧ (Calls Tryd.prog 56 #[.slice (some ⟨w.heap.size + 1, 0, none⟩) 2 2] w2 fun e W' => (∃ v, e = .returned v ∧ Wl W' W'.heap.size v V) ∧ Below w2.heap.size w2 W') := by
  have b1 : Row w2 w.heap.size 33 [.bool false, .slice none 0 0] := by rw [hw2]; exact (Row.new w _ [.bool false, .slice none 0 0]).alloc _
  have b2 : Row w2 (w.heap.size + 1) 81 ([lo, hi].map uw) := by rw [hw2]; exact Row.new2 w _ _ _ _
  have bw : Below w.heap.size w w2 := by rw [hw2]; exact ((Below.refl _ w).alloc (Nat.le_refl _) _).alloc (by simp) _
  refine ⟨b1, bw, ?_⟩
  have hd : Dig 4294967296 [lo, hi] := fun z hz => by
    rcases List.mem_cons.1 hz with rfl | hz
    · rw [hlo]; exact Nat.mod_lt _ (by decide)
    · rw [List.mem_singleton.1 hz, hhi]; omega
  have h := trim_any (some ⟨w.heap.size + 1, 0, none⟩) 2 2 w2.heap.size [lo, hi] (Nat.le_refl _) (by unfold maxLen; decide) hd w2 ((b2.rd 2 rfl).mono (by rw [hw2]; simp))
  have e : wval [lo, hi] = V := by rw [hlo, hhi]; exact two_words V
  rw [e] at h
  exact h.mono fun _ _ k => by obtain ⟨⟨v, rfl, hv⟩, rfl⟩ := k; exact ⟨⟨v, rfl, hv⟩, Below.refl _ _⟩

set_option maxRecDepth 100000 in
set_option maxHeartbeats 4000000 in
theorem from_any (n : Int) (h0 : -9223372036854775808 ≤ n) (h1 : n < 9223372036854775808) (w : World) :
    Calls Tryd.prog 21 #[.int .i64 n] w fun e W' => (∃ u, e = .returned u ∧ Wi W' W'.heap.size u n) ∧ Below w.heap.size w W' := by
  obtain ⟨V, hV⟩ : ∃ V, V = n.natAbs := ⟨_, rfl⟩
  obtain ⟨lo, hlo⟩ : ∃ lo, lo = V % 4294967296 := ⟨_, rfl⟩
  obtain ⟨hi, hhi⟩ : ∃ hi, hi = V / 4294967296 := ⟨_, rfl⟩
  obtain ⟨w2, hw2⟩ : ∃ w2, w2 = (w.alloc (.cells #[.bool false, .slice none 0 0] 33)).alloc (.cells #[.int .u32 (lo : Int), .int .u32 (hi : Int)] 81) := ⟨_, rfl⟩
  by_cases h : n < 0
  · obtain ⟨b1, bw, ct⟩ := from_tail V lo hi hlo hhi (by omega) w w2 hw2
    have e1 : IntKind.u64.wrap (-IntKind.u64.wrap n) = (V : Int) := by rw [IntKind.wrap_u64, IntKind.wrap_u64]; omega
    have e2 : (V : Int) % 4294967296 = (lo : Int) := by rw [hlo]; omega
    have e3 : (V : Int) / 4294967296 % 4294967296 = (hi : Int) := by rw [hhi]; omega
    have HZ := Lib.hid (show n = if true = true then -(V : Int) else (V : Int) by rw [if_pos rfl]; omega)
    clear hV hlo hhi h0 h1
    go_enter Tryd.func21, Tryd.ntmps21
    go_wp2_with fail
    try simp only [e1, e2, e3]
    rw [← hw2]
    clear hw2 e1 e2 e3
    refine ct.mono ?_
    rintro e W1 ⟨⟨v, rfl, hv⟩, hB⟩
    have hv' := hv
    obtain ⟨A1, c1, rfl, -, -, -⟩ := hv'
    have d1 := b1.below hB b1.lt
    have bw1 := bw.trans (hB.mono bw.size)
    clear b1 bw hB ct
    go_wp2_with fail
    refine (signed_w true V _ n HZ.out W1 hv).mono ?_
    rintro e W2 ⟨⟨u, rfl, hu⟩, hB⟩
    obtain ⟨u, rfl, hu⟩ := hu
    have hu' := hu
    obtain ⟨A2, c2, rfl, -, -, -⟩ := hu'
    unfold intV
    have row2 := d1.below hB d1.lt
    have low2 := bw1.trans (hB.mono bw1.size)
    clear d1 bw1 hB hv
    have k0 := row2.cell 0 _ rfl
    have k1 := row2.cell 1 _ rfl
    have f0 := row2.frozen 0
    have f1 := row2.frozen 1
    obtain ⟨ng, hng⟩ : ∃ ng, ng = (ws n.natAbs).length := ⟨_, rfl⟩
    obtain ⟨sg, hsg⟩ : ∃ sg, sg = decide (n < 0) := ⟨_, rfl⟩
    rw [← hng] at hu ⊢
    rw [← hsg]
    have HSG := Lib.hid hsg
    clear hng hsg
    go_wp2_with fail
    have bt : But W2.heap.size w.heap.size W2 ((W2.setCell ⟨w.heap.size, 0, none⟩ (.bool sg)).setCell ⟨w.heap.size, 1, none⟩ (.slice A2 ng c2)) := (But.setCell _ _ _ _ _).trans (But.setCell _ _ _ _ _)
    exact bodyPost_ret (res_row rfl rfl (row2.set2 _ _) Tryd.underlying33 rfl sizeW) rfl ⟨⟨_, rfl, .slice A2 ng c2, (by rw [HSG.out]; rfl), (hu.but_struct row2 bt).grow bt.size⟩, low2.trans (bt.low.mono (by omega))⟩
  · obtain ⟨b1, bw, ct⟩ := from_tail V lo hi hlo hhi (by omega) w w2 hw2
    have e1 : IntKind.u64.wrap n = (V : Int) := by rw [IntKind.wrap_u64]; omega
    have e2 : (V : Int) % 4294967296 = (lo : Int) := by rw [hlo]; omega
    have e3 : (V : Int) / 4294967296 % 4294967296 = (hi : Int) := by rw [hhi]; omega
    have HZ := Lib.hid (show n = if false = true then -(V : Int) else (V : Int) by rw [if_neg (by decide)]; omega)
    clear hV hlo hhi h0 h1
    go_enter Tryd.func21, Tryd.ntmps21
    go_wp2_with fail
    try simp only [e1, e2, e3]
    rw [← hw2]
    clear hw2 e1 e2 e3
    refine ct.mono ?_
    rintro e W1 ⟨⟨v, rfl, hv⟩, hB⟩
    have hv' := hv
    obtain ⟨A1, c1, rfl, -, -, -⟩ := hv'
    have d1 := b1.below hB b1.lt
    have bw1 := bw.trans (hB.mono bw.size)
    clear b1 bw hB ct
    go_wp2_with fail
    refine (signed_w false V _ n HZ.out W1 hv).mono ?_
    rintro e W2 ⟨⟨u, rfl, hu⟩, hB⟩
    obtain ⟨u, rfl, hu⟩ := hu
    have hu' := hu
    obtain ⟨A2, c2, rfl, -, -, -⟩ := hu'
    unfold intV
    have row2 := d1.below hB d1.lt
    have low2 := bw1.trans (hB.mono bw1.size)
    clear d1 bw1 hB hv
    have k0 := row2.cell 0 _ rfl
    have k1 := row2.cell 1 _ rfl
    have f0 := row2.frozen 0
    have f1 := row2.frozen 1
    obtain ⟨ng, hng⟩ : ∃ ng, ng = (ws n.natAbs).length := ⟨_, rfl⟩
    obtain ⟨sg, hsg⟩ : ∃ sg, sg = decide (n < 0) := ⟨_, rfl⟩
    rw [← hng] at hu ⊢
    rw [← hsg]
    have HSG := Lib.hid hsg
    clear hng hsg
    go_wp2_with fail
    have bt : But W2.heap.size w.heap.size W2 ((W2.setCell ⟨w.heap.size, 0, none⟩ (.bool sg)).setCell ⟨w.heap.size, 1, none⟩ (.slice A2 ng c2)) := (But.setCell _ _ _ _ _).trans (But.setCell _ _ _ _ _)
    exact bodyPost_ret (res_row rfl rfl (row2.set2 _ _) Tryd.underlying33 rfl sizeW) rfl ⟨⟨_, rfl, .slice A2 ng c2, (by rw [HSG.out]; rfl), (hu.but_struct row2 bt).grow bt.size⟩, low2.trans (bt.low.mono (by omega))⟩
def Fits (x : Int) : Prop := -9223372036854775808 ≤ x ∧ x < 9223372036854775808
instance (x : Int) : Decidable (Fits x) := inferInstanceAs (Decidable (_ ∧ _))
def smallE (x : Int) : Ending := .returned (.tuple #[.int .i64 (if Fits x then x else 0), .bool (decide (Fits x))])
set_option maxRecDepth 100000 in
set_option maxHeartbeats 4000000 in
theorem small_any (x : Int) (vx : Value) (w : World) (hvx : Wi w w.heap.size vx x) :
    Calls Tryd.prog 22 #[vx] w fun e W' => e = smallE x ∧ Below w.heap.size w W' := by
  obtain ⟨ux, rfl, hx⟩ := hvx
  have hx' := hx
  obtain ⟨A, c, rfl, hrd, hc1, hc2⟩ := hx'
  unfold intV
  obtain ⟨n, hn⟩ : ∃ n, n = (ws x.natAbs).length := ⟨_, rfl⟩
  obtain ⟨s, hs⟩ : ∃ s, s = decide (x < 0) := ⟨_, rfl⟩
  have b1 := Row.new w 33 [.bool s, .slice A n c]
  have bw : Below w.heap.size w (w.alloc (.cells #[.bool s, .slice A n c] 33)) := (Below.refl _ w).alloc (Nat.le_refl _) _
  obtain ⟨w1, hw1⟩ : ∃ w1, w1 = w.alloc (.cells #[.bool s, .slice A n c] 33) := ⟨_, rfl⟩
  have b1' : Row w1 w.heap.size 33 [.bool s, .slice A n c] := by rw [hw1]; exact b1
  rw [← hw1] at bw
  rw [← hn] at hx hrd hc1 ⊢
  rw [← hs]
  by_cases h2 : n ≤ 2
  · have h2' : (n : Int) ≤ 2 := by omega
    have h2'' : ¬ (2 < (n : Int)) := by omega
    have hd := ws_dig x.natAbs
    have hw0 : (ws x.natAbs).getD 1 0 * 4294967296 + (ws x.natAbs).getD 0 0 = x.natAbs := by
      have e := ws_val x.natAbs
      have hl := hn
      generalize ws x.natAbs = l at *
      rcases l with _ | ⟨a, _ | ⟨b, _ | ⟨_, _⟩⟩⟩
      · simpa [wval, Vm.val] using e
      · simpa [wval, Vm.val] using e
      · have : wval [a, b] = a + 4294967296 * b := by simp [wval, Vm.val]
        rw [this] at e
        show b * 4294967296 + a = _
        omega
      · simp at hl; omega
    obtain ⟨hi, hhi⟩ : ∃ hi, hi = (ws x.natAbs).getD 1 0 := ⟨_, rfl⟩
    obtain ⟨lo, hlo⟩ : ∃ lo, lo = (ws x.natAbs).getD 0 0 := ⟨_, rfl⟩
    have hhl : hi < 4294967296 := by rw [hhi]; exact hd.get (by decide) 1
    have hll : lo < 4294967296 := by rw [hlo]; exact hd.get (by decide) 0
    rw [← hhi, ← hlo] at hw0
    have ho := or_join hi lo hhl hll
    have hsh : IntKind.u64.wrap ((hi : Int) * 4294967296) = (hi : Int) * 4294967296 := by rw [IntKind.wrap_u64]; omega
    have HN := Lib.hid hn
    have HD := Lib.hid hd
    have HHI := Lib.hid hhi
    have HLO := Lib.hid hlo
    have HV := Lib.hid hw0
    have HH := Lib.hid hhl
    have HL := Lib.hid hll
    have HC := Lib.hid hc1
    have HC2 := Lib.hid hc2
    have HS := Lib.hid hs
    have k1 := b1'.cell 1 _ rfl
    clear hn hd hhi hlo hw0 hhl hll hc1 hc2 h2 hs
    go_enter Tryd.func22, Tryd.ntmps22
    go_wp2_with fail
    rw [← hw1]
    clear hw1 b1
    obtain ⟨S, hSd⟩ : ∃ S : World → Prop, S = fun w' => w'.cell? ⟨w.heap.size, 0, none⟩ = some (.bool s) ∧ w'.cell? ⟨w.heap.size, 1, none⟩ = some (.slice A n c) := ⟨_, rfl⟩
    have hSr : ∀ V, Row V (w.heap.size) 33 [.bool s, .slice A n c] → S V := fun V h0 => by rw [hSd]; exact ⟨h0.cell 0 _ rfl, h0.cell 1 _ rfl⟩
    have HSR := Lib.hid hSr
    refine wp_region_held (S := S) (by kernel_rfl) ?_
    change wpAnyH _ _ _ _ _ _ _ _ w1.drew
    have hS0 : S w1.drew := hSr _ b1'
    have c0_0 : Row w1.drew (w.heap.size) 33 [.bool s, .slice A n c] := b1'
    have bd_0 : Below w.heap.size w w1.drew := (bw).drew
    obtain ⟨V0, hV0⟩ : ∃ V0, V0 = w1.drew := ⟨_, rfl⟩
    rw [← hV0] at hS0 c0_0 bd_0 ⊢
    subst hSd
    clear hSr
    clear hV0
    refine wpAnyH_take (i := 0) (v := .pointer (some ⟨w.heap.size, 1, none⟩)) rfl (by kernel_rfl) (by kernel_rfl) (by kernel_rfl) (fun _ _ _ h => h) (Or.inl ⟨by rfl, by intro w hSw; go_simp⟩) hS0 ?_
    refine wpAnyH_take (i := 1) (v := .slice A n c) rfl (by kernel_rfl) (by kernel_rfl) (by kernel_rfl) (fun _ _ _ h => h) (Or.inl ⟨by rfl, by intro w hSw; obtain ⟨q0, q1⟩ := hSw; go_simp⟩) hS0 ?_
    refine wpAnyH_take (i := 4) (v := .pointer (some ⟨w.heap.size, 1, none⟩)) rfl (by kernel_rfl) (by kernel_rfl) (by kernel_rfl) (fun _ _ _ h => h) (Or.inl ⟨by rfl, by intro w hSw; go_simp⟩) hS0 ?_
    refine wpAnyH_take (i := 5) (v := .slice A n c) rfl (by kernel_rfl) (by kernel_rfl) (by kernel_rfl) (fun _ _ _ h => h) (Or.inl ⟨by rfl, by intro w hSw; obtain ⟨q0, q1⟩ := hSw; go_simp⟩) hS0 ?_
    dsimp only [Act.put, List.getElem_toArray, List.getElem_cons_succ, List.getElem_cons_zero, List.setIfInBounds_toArray, List.set_cons_zero, List.set_cons_succ]
    simp only [List.setIfInBounds_toArray, List.set_cons_zero, List.set_cons_succ]
    refine one_ready (i := 2) (by kernel_rfl) rfl (fun K hK => ?_)
    go_simp
    refine (sameB (word_any A n c 1 V0.heap.size (ws x.natAbs) (Nat.le_trans HC.out HC2.out) 1 rfl (by unfold maxLen; decide) HD.out V0 (rd_of HN.out (hx.later bd_0 bd_0.size)))).mono ?_
    rintro e U1 ⟨⟨u, rfl, hu, -⟩, hB1⟩
    rw [← HHI.out] at hu
    subst hu
    dsimp only
    have c0_1 := c0_0.below hB1 c0_0.lt
    have bd_1 := bd_0.trans (hB1.mono bd_0.size)
    have hS1 := HSR.out U1 c0_1
    refine hK.out _ _ hS1 (fun _ => ?_)
    clear hK K hS0 bd_0 c0_0 
    refine wpAnyH_take (i := 3) (v := .int .u64 ((u : Int) * 4294967296)) rfl (by kernel_rfl) (by kernel_rfl) (by kernel_rfl) (fun _ _ _ h => h) (Or.inl ⟨by rfl, by intro w hSw; go_simp⟩) hS1 ?_
    dsimp only [Act.put, List.getElem_toArray, List.getElem_cons_succ, List.getElem_cons_zero, List.setIfInBounds_toArray, List.set_cons_zero, List.set_cons_succ]
    refine one_ready (i := 6) (by kernel_rfl) rfl (fun K hK => ?_)
    go_simp
    refine (sameB (word_any A n c 0 U1.heap.size (ws x.natAbs) (Nat.le_trans HC.out HC2.out) 0 rfl (by unfold maxLen; decide) HD.out U1 (rd_of HN.out (hx.later bd_1 bd_1.size)))).mono ?_
    rintro e U2 ⟨⟨u2, rfl, hu2, -⟩, hB2⟩
    rw [← HLO.out] at hu2
    subst hu2
    dsimp only
    have c0_2 := c0_1.below hB2 c0_1.lt
    have bd_2 := bd_1.trans (hB2.mono bd_1.size)
    have hS2 := HSR.out U2 c0_2
    refine hK.out _ _ hS2 (fun _ => ?_)
    clear hK K hS1 bd_1 c0_1 
    refine wpAnyH_take (i := 7) (v := .int .u64 ((u * 4294967296 + u2 : Nat) : Int)) rfl (by kernel_rfl) (by kernel_rfl) (by kernel_rfl) (fun _ _ _ h => h) (Or.inl ⟨by rfl, by intro w hSw; go_simp⟩) hS2 ?_
    refine wpAnyH_take (i := 8) (v := .int .u64 ((u * 4294967296 + u2 : Nat) : Int)) rfl (by kernel_rfl) (by kernel_rfl) (by kernel_rfl) (fun _ _ _ h => h) (Or.inl ⟨by rfl, by intro w hSw; go_simp⟩) hS2 ?_
    dsimp only [Act.put, List.getElem_toArray, List.getElem_cons_succ, List.getElem_cons_zero, List.setIfInBounds_toArray, List.set_cons_zero, List.set_cons_succ]
    simp only [List.setIfInBounds_toArray, List.set_cons_zero, List.set_cons_succ]
    refine wpAnyH_done (by kernel_rfl) ?_ _
    have k0 := c0_2.cell 0 _ rfl
    have hvl := HV.out
    have hul := HH.out
    have hll := HL.out
    rw [HV.out]
    clear hsh ho
    obtain ⟨V, hV⟩ : ∃ V, V = x.natAbs := ⟨_, rfl⟩
    rw [← hV] at hvl ⊢
    cases s with
    | false =>
      have hx0 : 0 ≤ x := by have := HS.out; exact Int.not_lt.1 (fun h => by rw [decide_eq_true h] at this; cases this)
      obtain ⟨N, hN⟩ : ∃ N, N = IntKind.i64.wrap (V : Int) := ⟨_, rfl⟩
      have hN2 := hN
      rw [IntKind.wrap_i64] at hN2
      by_cases hf : Fits x
      · have hlt : ¬ N < 0 := by unfold Fits at hf; omega
        have he : N = x := by unfold Fits at hf; omega
        have HE := Lib.hid (show smallE x = .returned (.tuple #[.int .i64 N, .bool true]) by unfold smallE; rw [if_pos hf, decide_eq_true hf, he])
        have hN3 := hN.symm
        clear hN hN2 hf he hvl hul hll hV hx0
        go_wp2_with fail
        go_ret2
        exact ⟨HE.out.symm, bd_2⟩
      · have hlt : N < 0 := by unfold Fits at hf; omega
        have HE := Lib.hid (show smallE x = .returned (.tuple #[.int .i64 0, .bool false]) by unfold smallE; rw [if_neg hf, decide_eq_false hf])
        have hN3 := hN.symm
        clear hN hN2 hf hvl hul hll hV hx0
        go_wp2_with fail
        go_ret2
        exact ⟨HE.out.symm, bd_2⟩
    | true =>
      have hx0 : x < 0 := of_decide_eq_true HS.out.symm
      obtain ⟨M, hM⟩ : ∃ M, M = IntKind.u64.wrap (-(V : Int)) := ⟨_, rfl⟩
      have hM2 := hM
      rw [IntKind.wrap_u64] at hM2
      obtain ⟨N, hN⟩ : ∃ N, N = IntKind.i64.wrap M := ⟨_, rfl⟩
      have hN2 := hN
      rw [IntKind.wrap_i64] at hN2
      by_cases hf : Fits x
      · have hlt : N < 0 := by unfold Fits at hf; omega
        have he : N = x := by unfold Fits at hf; omega
        have HE := Lib.hid (show smallE x = .returned (.tuple #[.int .i64 N, .bool true]) by unfold smallE; rw [if_pos hf, decide_eq_true hf, he])
        have hN3 := hN.symm
        have hM3 := hM.symm
        clear hN hN2 hM hM2 hf he hvl hul hll hV hx0
        go_wp2_with fail
        go_ret2
        exact ⟨HE.out.symm, bd_2⟩
      · have hlt : ¬ N < 0 := by unfold Fits at hf; omega
        have HE := Lib.hid (show smallE x = .returned (.tuple #[.int .i64 0, .bool false]) by unfold smallE; rw [if_neg hf, decide_eq_false hf])
        have hN3 := hN.symm
        have hM3 := hM.symm
        clear hN hN2 hM hM2 hf hvl hul hll hV hx0
        go_wp2_with fail
        go_ret2
        exact ⟨HE.out.symm, bd_2⟩
  · have h2' : (2 : Int) < (n : Int) := by omega
    have hf : ¬ Fits x := by
      intro hf
      have hlt : x.natAbs < 4294967296 ^ 2 := by unfold Fits at hf; omega
      have := (inR_pow 4294967296 2 x.natAbs (by decide)).1 hlt
      exact h2 (by rw [hn]; exact this)
    have he : smallE x = .returned (.tuple #[.int .i64 0, .bool false]) := by unfold smallE; rw [if_neg hf, decide_eq_false hf]
    rw [he]
    clear he hf hn hs hrd hx b1 b1' h2 hc1 hc2
    go_enter Tryd.func22, Tryd.ntmps22
    go_wp2_with fail
    rw [← hw1]
    go_ret2
    exact ⟨rfl, bw⟩
end Go.Proofs.YtmpdoikdadjneaaDoor

/- Texts of digits: isDecimal, the sign. -/
namespace Go.Proofs.YtmpdoikdadjneaaDoor
open Go.RowKit Go.Shelf Hb Vm Ds Vr

def IsDig (c : UInt8) : Prop := 48 ≤ c.toNat ∧ c.toNat ≤ 57
instance (c : UInt8) : Decidable (IsDig c) := inferInstanceAs (Decidable (_ ∧ _))
/-- the text of an integer without a sign -/
def DecOK (s : ByteArray) : Prop := (∀ c ∈ s.data.toList, IsDig c) ∧ (s = ⟨#[48]⟩ ∨ (s ≠ ⟨#[]⟩ ∧ s.data.toList.getD 0 0 ≠ 48))
instance (s : ByteArray) : Decidable (DecOK s) := inferInstanceAs (Decidable (_ ∧ _))

set_option maxRecDepth 100000 in
set_option maxHeartbeats 4000000 in
theorem isDec_any (s : ByteArray) (hs : s.size ≤ 100000) (w : World) :
    Calls Tryd.prog 48 #[.string s] w fun e W' => e = .returned (.bool (decide (DecOK s))) ∧ w = W' := by
  obtain ⟨b, hb⟩ : ∃ b, b = decide (DecOK s) := ⟨_, rfl⟩
  rw [← hb]
  have HB := Lib.hid hb
  clear hb
  go_enter Tryd.func48, Tryd.ntmps48
  go_wp2_with fail
  go_loop [6] (fun v => ∃ k : Nat, k ≤ s.size ∧ v = .int .i64 k ∧ Hid (∀ c ∈ s.data.toList.take k, IsDig c)) (fun v => s.size - (intOf v).toNat)
  case atStart => exact ⟨0, Nat.zero_le _, rfl, fun c hc => by cases hc⟩
  case round =>
    obtain ⟨k, hk, rfl, hd⟩ := hrel
    by_cases he : k = s.size
    · subst he
      have hall : ∀ c ∈ s.data.toList, IsDig c := fun c hc => hd.out c (by rw [List.take_of_length_le (by rw [Array.length_toList]; exact Nat.le_refl _)]; exact hc)
      have hL := ByteArray.toList_eq s
      by_cases h1 : s.data.toList = [48]
      · have f1 : (s.toList == [48]) = true := by rw [hL, h1]; rfl
        have e1 : s = ⟨#[48]⟩ := ByteArray.ext (Array.toList_inj.1 h1)
        have hb : b = true := by rw [HB.out]; exact decide_eq_true ⟨hall, .inl e1⟩
        subst hb
        clear hd hall e1 h1 hL
        go_wp2_with fail
        go_ret
        exact ⟨rfl, rfl⟩
      · have f1 : (s.toList == [48]) = false := by rw [hL]; exact beq_eq_false_iff_ne.2 h1
        have e1 : s ≠ ⟨#[48]⟩ := fun e => h1 (by rw [e])
        by_cases h2 : s.size = 0
        · have h2' : s.data.toList = [] := List.eq_nil_of_length_eq_zero (by rw [Array.length_toList]; exact h2)
          have f2 : s.toList.isEmpty = true := by rw [hL, h2']; rfl
          have hb : b = false := by rw [HB.out]; exact decide_eq_false (fun h => h.2.elim e1 (fun h => h.1 (ByteArray.ext (Array.toList_inj.1 h2'))))
          subst hb
          clear hd hall e1 h1 hL h2' h2
          go_wp2_with fail
          go_ret
          exact ⟨rfl, rfl⟩
        · have h2' : 0 < s.size := by omega
          have h3 : s.data.toList ≠ [] := fun e => h2 (by have := congrArg List.length e; rw [Array.length_toList] at this; exact this)
          have f2 : s.toList.isEmpty = false := by rw [hL]; cases hh : s.data.toList with | nil => exact absurd hh h3 | cons _ _ => rfl
          obtain ⟨c, hc⟩ : ∃ c, s[0]'h2' = c := ⟨_, rfl⟩
          have hcd : s.data.toList.getD 0 0 = c := by rw [← hc]; exact (Lib.getD_at s 0 h2').symm
          have f3 : ((c.toNat : Int) != 48) = b := by
            have e3 : DecOK s ↔ c ≠ 48 := ⟨fun h => h.2.elim (fun h => absurd h e1) (fun h => by rw [← hcd]; exact h.2), fun h => ⟨hall, .inr ⟨fun e => h3 (by rw [e]), by rw [hcd]; exact h⟩⟩⟩
            rw [HB.out]
            by_cases hz : c = 48
            · rw [decide_eq_false (fun h => e3.1 h hz), hz]; rfl
            · rw [decide_eq_true (e3.2 hz)]
              have : c.toNat ≠ 48 := fun e => hz (UInt8.toNat_inj.1 e)
              simp; omega
          have F3 := Lib.hid f3
          clear hd hall e1 h1 hL h2 h3 hcd
          go_wp2_with fail
          go_ret
          exact ⟨by try rfl, rfl⟩
    · have hlt : k < s.size := by omega
      have hlt' : (k : Int) < (s.size : Int) := by omega
      obtain ⟨c, hc⟩ : ∃ c, s[k]'hlt = c := ⟨_, rfl⟩
      have hcd : s.data.toList[k]? = some c := by rw [← hc]; exact Go.Proofs.byte_at s k hlt
      by_cases h1 : (c.toNat : Int) < 48
      · have hb : b = false := by rw [HB.out]; exact decide_eq_false (fun h => by have := (h.1 c (List.mem_of_getElem? hcd)).1; omega)
        subst hb
        clear hd hcd he
        go_wp2_with fail
        go_ret
        exact ⟨rfl, rfl⟩
      · by_cases h2 : 57 < (c.toNat : Int)
        · have hb : b = false := by rw [HB.out]; exact decide_eq_false (fun h => by have := (h.1 c (List.mem_of_getElem? hcd)).2; omega)
          subst hb
          clear hd hcd he
          go_wp2_with fail
          go_ret
          exact ⟨rfl, rfl⟩
        · have hcd' := Lib.hid hcd
          have hdc : Hid (IsDig c) := Lib.hid ⟨by omega, by omega⟩
          clear hcd he
          go_wp2_with fail
          go_round
          case rel => exact ⟨k + 1, by omega, by go_num, Lib.hid (fun x hx => by
            rw [List.take_add_one, hcd'.out, List.mem_append] at hx
            rcases hx with hx | hx
            · exact hd.out x hx
            · rw [List.mem_singleton.1 hx]; exact hdc.out)⟩
          case measure => simp [intOf]; omega
end Go.Proofs.YtmpdoikdadjneaaDoor

/- The sign of a text. -/
namespace Go.Proofs.YtmpdoikdadjneaaDoor
open Go.RowKit Go.Shelf Hb Vm Ds Vr

def Minus (s : ByteArray) : Prop := s.data.toList.head? = some 45
instance (s : ByteArray) : Decidable (Minus s) := inferInstanceAs (Decidable (_ = _))
/-- a text behind its sign -/
def unsign (s : ByteArray) : ByteArray := if Minus s then s.extract 1 s.size else s
theorem extract1 (s : ByteArray) : (s.extract 0 1).data.toList = s.data.toList.take 1 := by simp [ByteArray.data_extract, Array.toList_extract]

theorem has_any (s : ByteArray) (w : World) :
    Calls Tryd.prog 82 #[.string s, .string ⟨#[45]⟩] w fun e W' => e = .returned (.bool (decide (Minus s))) ∧ w = W' := by
  obtain ⟨b, hb⟩ : ∃ b, b = decide (Minus s) := ⟨_, rfl⟩
  rw [← hb]
  have hl : s.data.toList.length = s.size := Array.length_toList
  by_cases h : 1 ≤ s.size
  · have hx : ((s.extract 0 1).toList == [45]) = b := by
      rw [ByteArray.toList_eq, extract1, hb]
      have e : Minus s ↔ s.data.toList.take 1 = [45] := by
        unfold Minus
        cases s.data.toList with
        | nil => exact ⟨(fun h => by cases h), (fun h => by cases h)⟩
        | cons c t => exact ⟨(fun h => by rw [Option.some.inj h]; rfl), (fun h => by rw [List.take_succ_cons] at h; rw [(List.cons.inj h).1]; rfl)⟩
      by_cases hm : Minus s
      · rw [decide_eq_true hm, e.1 hm]; rfl
      · rw [decide_eq_false hm]; exact beq_eq_false_iff_ne.2 fun h => hm (e.2 h)
    have hlt : 1 ≤ (s.size : Int) := by omega
    clear hl hb
    go_enter Tryd.func82, Tryd.ntmps82
    go_wp2_with fail
    go_ret
    exact ⟨rfl, rfl⟩
  · have h0 : s.size = 0 := by omega
    have hb' : b = false := by
      have : s.data.toList = [] := List.eq_nil_of_length_eq_zero (by omega)
      rw [hb]
      exact decide_eq_false (fun hm => by unfold Minus at hm; rw [this] at hm; cases hm)
    subst hb'
    clear hl hb h
    go_enter Tryd.func82, Tryd.ntmps82
    go_wp2_with fail
    go_ret
    exact ⟨rfl, rfl⟩
theorem cut2_any (s : ByteArray) (w : World) :
    Calls Tryd.prog 70 #[.string s, .string ⟨#[45]⟩] w fun e W' => e = .returned (.tuple #[.string (unsign s), .bool (decide (Minus s))]) ∧ w = W' := by
  have h := has_any s w
  by_cases hm : Minus s
  · have hu : unsign s = s.extract 1 s.size := if_pos hm
    have h1 : 1 ≤ s.size := by
      rcases Nat.eq_zero_or_pos s.size with h | h
      · have : s.data.toList = [] := List.eq_nil_of_length_eq_zero (by rw [Array.length_toList]; exact h)
        unfold Minus at hm
        rw [this] at hm; cases hm
      · exact h
    rw [decide_eq_true hm] at h ⊢
    rw [hu]
    clear hm hu
    go_enter Tryd.func70, Tryd.ntmps70
    go_wp2_with fail
    refine h.mono ?_
    rintro e w' ⟨rfl, rfl⟩
    go_wp2_with fail
    go_ret2
    exact ⟨rfl, rfl⟩
  · have hu : unsign s = s := if_neg hm
    rw [decide_eq_false hm] at h ⊢
    rw [hu]
    clear hm hu
    go_enter Tryd.func70, Tryd.ntmps70
    go_wp2_with fail
    refine h.mono ?_
    rintro e w' ⟨rfl, rfl⟩
    go_wp2_with fail
    go_ret2
    exact ⟨rfl, rfl⟩
theorem cut_any (s : ByteArray) (w : World) :
    Calls Tryd.prog 47 #[.string s, .string ⟨#[45]⟩] w fun e W' => e = .returned (.tuple #[.string (unsign s), .bool (decide (Minus s))]) ∧ w = W' := by
  have h := cut2_any s w
  obtain ⟨b, hb⟩ : ∃ b, b = decide (Minus s) := ⟨_, rfl⟩
  obtain ⟨u, hu⟩ : ∃ u, u = unsign s := ⟨_, rfl⟩
  rw [← hb, ← hu] at h ⊢
  clear hb hu
  go_enter Tryd.func47, Tryd.ntmps47
  go_wp2_with fail
  refine h.mono ?_
  rintro e w' ⟨rfl, rfl⟩
  go_wp2_with fail
  go_ret2
  exact ⟨rfl, rfl⟩

end Go.Proofs.YtmpdoikdadjneaaDoor

/- What Parse answers. -/
namespace Go.Proofs.YtmpdoikdadjneaaDoor
open Go.RowKit Go.Shelf Hb Vm Ds Vr

def parseOK (s : ByteArray) : Prop := DecOK (unsign s) ∧ s.data.toList ≠ [45, 48]
instance (s : ByteArray) : Decidable (parseOK s) := inferInstanceAs (Decidable (_ ∧ _))
def parseN (s : ByteArray) : Nat := dval (unsign s).data.toList
def parseZ (s : ByteArray) : Int := if decide (Minus s) = true then -(parseN s : Int) else (parseN s : Int)
def codeP (s : ByteArray) : Int := if 5000 < s.size then 4 else if ¬ parseOK s then 2 else if InR (parseZ s) then 0 else 4
def ParseW (s : ByteArray) (w : World) (e : Ending) (W' : World) : Prop := (∃ u, e = errI u (codeP s) ∧ Wi W' W'.heap.size u (if codeP s = 0 then parseZ s else 0)) ∧ Below w.heap.size w W'
theorem extractE (s : ByteArray) (n : Nat) : (s.extract n s.size).data.toList = s.data.toList.drop n := by
  have h : s.data.toList.length = s.size := Array.length_toList
  simp [ByteArray.data_extract, Array.toList_extract]
  rw [List.take_of_length_le]
  rw [List.length_drop, h]; exact Nat.le_refl _
theorem extractT (s : ByteArray) (n : Nat) : (s.extract 0 n).data.toList = s.data.toList.take n := by simp [ByteArray.data_extract, Array.toList_extract]
theorem dval_app (a b : List UInt8) : dval (a ++ b) = dval a * 10 ^ b.length + dval b := by
  have h : ∀ (b : List UInt8) (acc : Nat), b.foldl (fun a c => a * 10 + (c.toNat - 48)) acc = acc * 10 ^ b.length + b.foldl (fun a c => a * 10 + (c.toNat - 48)) 0 := by
    intro b
    induction b with
    | nil => intro acc; simp
    | cons c t ih =>
      intro acc
      rw [List.foldl_cons, List.foldl_cons, ih, ih (0 * 10 + (c.toNat - 48)), List.length_cons, Nat.pow_succ, Nat.add_mul, Nat.zero_mul, Nat.zero_add, Nat.mul_comm (10 ^ t.length) 10, ← Nat.mul_assoc]
      omega
  unfold dval
  rw [List.foldl_append, h]
theorem group_len (b c : Nat) (_ : 0 < c) (hcb : c ≤ b) (k n : Nat) (h : n < c ^ k) : n < b ^ k := Nat.lt_of_lt_of_le h (Nat.pow_le_pow_left hcb k)
theorem dval_len (l : List UInt8) (hd : ∀ c ∈ l, IsDig c) (hl : l.length ≤ 5000) : (ws (dval l)).length ≤ 556 := ten_words 556 _ _ (dval_lt l hd) (by omega)
def strLen (v : Value) : Nat := match v with | .string t => t.size | _ => 0
theorem group_step (D : List UInt8) (p n : Nat) (h : p = 0 ∨ n = 9) (hn : p + n ≤ D.length) : dval (D.take (p + n)) = dval (D.take p) * 1000000000 + dval ((D.drop p).take n) := by
  rw [List.take_add, dval_app]
  have e : ((D.drop p).take n).length = n := by rw [List.length_take, List.length_drop]; omega
  rw [e]
  rcases h with rfl | rfl
  · simp [dval]
  · rfl

set_option maxRecDepth 100000 in
set_option maxHeartbeats 8000000 in
theorem parse_any (s : ByteArray) (w : World) (hmax : s.size ≤ 1000000) :
    Calls Tryd.prog 16 #[.string s] w (ParseW s w) := by
  obtain ⟨w1, hw1⟩ : ∃ w1, w1 = w.alloc (.cells #[.bool false, .slice none 0 0] 33) := ⟨_, rfl⟩
  have b1 : Row w1 w.heap.size 33 [.bool false, .slice none 0 0] := by rw [hw1]; exact Row.new w _ [.bool false, .slice none 0 0]
  have bw : Below w.heap.size w w1 := by rw [hw1]; exact (Below.refl _ w).alloc (Nat.le_refl _) _
  have k0 := b1.cell 0 _ rfl
  have k1 := b1.cell 1 _ rfl
  have f0 := b1.frozen 0
  have f1 := b1.frozen 1
  have hset : But w1.heap.size w.heap.size w1 ((w1.setCell ⟨w.heap.size, 0, none⟩ (.bool false)).setCell ⟨w.heap.size, 1, none⟩ (.slice none 0 0)) := (But.setCell _ _ _ _ _).trans (But.setCell _ _ _ _ _)
  have hfail : ∀ (c : Int) (W : World), codeP s = c → c ≠ 0 → Below w.heap.size w W → ParseW s w (errI (.agg #[.bool false, .slice none 0 0]) c) W := fun c W h1 h2 h3 => by
    unfold ParseW
    rw [h1, if_neg h2]
    exact ⟨⟨_, rfl, _, rfl, Wl.nil _ _⟩, h3⟩
  have HF := Lib.hid hfail
  clear hfail
  by_cases h5 : 5000 < s.size
  · have h5' : 5000 < (s.size : Int) := by omega
    have hc : Hid (codeP s = 4) := Lib.hid (by unfold codeP; rw [if_pos h5])
    clear h5
    go_enter Tryd.func16, Tryd.ntmps16
    go_wp2_with fail
    rw [← hw1]
    exact bodyPost_ret (res_row_tmp rfl rfl b1 Tryd.underlying33 rfl sizeW) rfl (HF.out 4 _ hc.out (by decide) bw)
  · have h5' : ¬ 5000 < (s.size : Int) := by omega
    have hsz := Lib.hid h5
    obtain ⟨neg, hneg⟩ : ∃ neg, neg = decide (Minus s) := ⟨_, rfl⟩
    obtain ⟨u, hu⟩ : ∃ u, u = unsign s := ⟨_, rfl⟩
    have hus : u.size ≤ s.size := by
      rw [hu]; unfold unsign
      split
      · have : (s.extract 1 s.size).data.toList.length = (s.extract 1 s.size).size := Array.length_toList
        have h2 : s.data.toList.length = s.size := Array.length_toList
        rw [extractE, List.length_drop] at this
        omega
      · exact Nat.le_refl _
    have hcut := cut_any s w1
    rw [← hneg, ← hu] at hcut
    have hdec := isDec_any u (by omega) w1
    have HN := Lib.hid hneg
    have HU := Lib.hid hu
    have HUS := Lib.hid (show u.size ≤ 5000 by omega)
    obtain ⟨ok, hok⟩ : ∃ ok, ok = decide (DecOK u) := ⟨_, rfl⟩
    rw [← hok] at hdec
    clear hneg hu hus h5
    obtain ⟨z, hz⟩ : ∃ z, (s.toList == [45, 48]) = z := ⟨_, rfl⟩
    have hz2 : z = true ↔ s.data.toList = [45, 48] := by rw [← hz, ByteArray.toList_eq]; exact beq_iff_eq
    by_cases hp : parseOK s
    · have hok1 : ok = true := by rw [hok]; exact decide_eq_true (by rw [HU.out]; exact hp.1)
      have hz1 : z = false := by
        cases z with
        | false => rfl
        | true => exact absurd (hz2.1 rfl) hp.2
      have HP := Lib.hid hp
      subst hok1
      subst hz1
      clear hz2 hok hp
      go_enter Tryd.func16, Tryd.ntmps16
      go_wp2_with fail
      rw [← hw1]
      clear hw1
      refine hcut.mono ?_
      rintro e w' ⟨rfl, rfl⟩
      go_wp2_with fail
      refine hdec.mono ?_
      rintro e w' ⟨rfl, rfl⟩
      go_wp2_with fail
      clear hcut hdec hz k0 k1 f0 f1 hset HF
      go_loopw [4, 6] (fun dv wv W => ∃ (p : Nat) (t : ByteArray), dv = .string t ∧ Hid (t.data.toList = u.data.toList.drop p) ∧ Hid (p ≤ u.size) ∧ Hid (p = 0 ∨ (u.size - p) % 9 = 0) ∧ Wl W W.heap.size wv (dval (u.data.toList.take p)) ∧ Row W w.heap.size 33 [.bool false, .slice none 0 0] ∧ Below w.heap.size w W) (fun dv _ _ => strLen dv)
      case atStart => exact ⟨0, u, rfl, Lib.hid rfl, Lib.hid (Nat.zero_le _), Lib.hid (.inl rfl), Wl.nil _ _, b1, bw⟩
      case round =>
        obtain ⟨p, t, rfl, ht, hpu, hpm, hwl, hrow, hlow⟩ := hrel
        have htl : t.size = u.size - p := by
          have h1 : t.data.toList.length = t.size := Array.length_toList
          have h2 : u.data.toList.length = u.size := Array.length_toList
          rw [← h1, ht.out, List.length_drop, h2]
        have hD : Hid (∀ c ∈ u.data.toList, IsDig c) := Lib.hid (by have := HP.out.1.1; rw [HU.out]; exact this)
        have hwl' := hwl
        obtain ⟨A, c, rfl, hrd, -, -⟩ := hwl'
        obtain ⟨N, hN⟩ : ∃ N, N = dval (u.data.toList.take p) := ⟨_, rfl⟩
        rw [← hN] at hwl hrd ⊢
        obtain ⟨m, hm⟩ : ∃ m, m = (ws N).length := ⟨_, rfl⟩
        rw [← hm] at hwl hrd ⊢
        have HNN := Lib.hid hN
        have HMM := Lib.hid hm
        clear hN hm
        have HTL := Lib.hid htl
        have HUL := Lib.hid (show u.data.toList.length = u.size from Array.length_toList)
        have hml : Hid (m ≤ 556) := Lib.hid (by
          rw [HMM.out, HNN.out]
          exact dval_len _ (fun c hc => hD.out c (List.mem_of_mem_take hc)) (by rw [List.length_take, HUL.out]; have := HUS.out; omega))
        by_cases he : t.size = 0
        · have hez : Hid (N = parseN s) := Lib.hid (by
            rw [HNN.out]
            rw [List.take_of_length_le (by rw [HUL.out]; omega), HU.out]; rfl)
          clear htl hrd
          go_wp2_with fail
          refine (signed_w neg N _ (parseZ s) (by unfold parseZ; rw [← HN.out, ← hez.out]) _ hwl).mono ?_
          rintro e W1 ⟨⟨v, rfl, hv⟩, hB1⟩
          have row1 := hrow.below hB1 hrow.lt
          have low1 := hlow.trans (hB1.mono hlow.size)
          have hlz : Hid ((ws (parseZ s).natAbs).length ≤ 1000000) := Lib.hid (by
            have e : (parseZ s).natAbs = N := by unfold parseZ; rw [← hez.out]; split <;> omega
            rw [e, ← HMM.out]; have := hml.out; omega)
          clear hwl hrow hlow hB1
          go_wp2_with fail
          refine (inRange_any (parseZ s) v W1 hv hlz.out).mono ?_
          rintro e W2 ⟨⟨v2, rfl, hv2⟩, hB2⟩
          have row2 := row1.below hB2 row1.lt
          have low2 := low1.trans (hB2.mono low1.size)
          have hcode : Hid (codeP s = if InR (parseZ s) then 0 else 4) := Lib.hid (by unfold codeP; rw [if_neg hsz.out, if_neg (fun h => h HP.out)])
          obtain ⟨cd, hcd⟩ : ∃ cd : Int, cd = if InR (parseZ s) then 0 else 4 := ⟨_, rfl⟩
          obtain ⟨zz, hzz⟩ : ∃ zz : Int, zz = if InR (parseZ s) then parseZ s else 0 := ⟨_, rfl⟩
          unfold errI
          rw [← hcd]
          rw [← hzz] at hv2
          obtain ⟨v3, rfl, hv3⟩ := hv2
          have hv4 := hv3
          obtain ⟨A2, c2, rfl, -, -, -⟩ := hv4
          unfold intV
          obtain ⟨sg, hsg⟩ : ∃ sg, sg = decide (zz < 0) := ⟨_, rfl⟩
          obtain ⟨nz, hnz⟩ : ∃ nz, nz = (ws zz.natAbs).length := ⟨_, rfl⟩
          rw [← hnz] at hv3 ⊢
          rw [← hsg]
          have HCD := Lib.hid hcd
          have HZZ := Lib.hid hzz
          have HSG := Lib.hid hsg
          clear hcd hzz hsg hnz hv row1 low1 hB2
          have k0 := row2.cell 0 _ rfl
          have k1 := row2.cell 1 _ rfl
          have f0 := row2.frozen 0
          have f1 := row2.frozen 1
          go_wp2_with fail
          have bt : But W2.heap.size w.heap.size W2 ((W2.setCell ⟨w.heap.size, 0, none⟩ (.bool sg)).setCell ⟨w.heap.size, 1, none⟩ (.slice A2 nz c2)) := (But.setCell _ _ _ _ _).trans (But.setCell _ _ _ _ _)
          refine bodyPost_ret (res_row_tmp rfl rfl (row2.set2 _ _) Tryd.underlying33 rfl sizeW) rfl ⟨⟨intV zz (.slice A2 nz c2), ?_, ?_⟩, low2.trans (bt.low.mono (by omega))⟩
          · rw [hcode.out, ← HCD.out]
            unfold errI intV
            rw [← HSG.out]; rfl
          · have e : (if codeP s = 0 then parseZ s else 0) = zz := by
              rw [hcode.out, HZZ.out]
              by_cases hi : InR (parseZ s)
              · rw [if_pos hi, if_pos rfl, if_pos hi]
              · rw [if_neg hi, if_neg (by decide), if_neg hi]
            rw [e]
            exact ⟨_, rfl, (hv3.but_struct row2 bt).grow bt.size⟩
        · have hpos : 0 < (t.size : Int) := by omega
          obtain ⟨n, hn⟩ : ∃ n : Nat, n = (t.size - 1) % 9 + 1 := ⟨_, rfl⟩
          have hn9 : n ≤ 9 := by omega
          have hn1 : 1 ≤ n := by omega
          have hnt : (n : Int) ≤ (t.size : Int) := by omega
          have hnt' : n ≤ t.size := by omega
          have hn0 : (0 : Int) ≤ (n : Int) := by omega
          have htn : (n : Int).toNat = n := by omega
          obtain ⟨q, hq⟩ : ∃ q : Nat, q = t.size - 1 := ⟨_, rfl⟩
          have e0 : wrap64 ((t.size : Int) - 1) = (q : Int) := by have := HUS.out; unfold wrap64; omega
          have e1 : (q : Int) % 9 + 1 = (n : Int) := by rw [hn, ← hq]; omega
          have hstep := Lib.hid (group_step u.data.toList p n (by have := hpm.out; omega) (by rw [HUL.out]; omega))
          have hpn : Hid (p + n ≤ u.size) := Lib.hid (by omega)
          have hmod : Hid (p + n = 0 ∨ (u.size - (p + n)) % 9 = 0) := Lib.hid (by have := hpm.out; omega)
          have hg := extractT t n
          have htlen : t.data.toList.length = t.size := Array.length_toList
          have hgs : (t.extract 0 n).size = n := by
            have h1 : (t.extract 0 n).data.toList.length = (t.extract 0 n).size := Array.length_toList
            rw [← h1, hg, List.length_take, htlen]; omega
          have cp := parseUint_any (t.extract 0 n) (fun c hc => by
            rw [hg] at hc
            have := List.mem_of_mem_take hc
            rw [ht.out] at this
            exact hD.out c (List.mem_of_mem_drop this)) (by rw [hgs]; exact hn1) (by rw [hgs]; exact hn9) wr
          rw [hg, ht.out] at cp
          have HG := Lib.hid hgs
          have HN1 := Lib.hid hn1
          clear htl hrd hn hn9 hn1 hgs hg htlen he hq
          go_wp2_with fail
          refine cp.mono ?_
          rintro e W1 ⟨⟨g, rfl, hgv, hgl⟩, hB1⟩
          have row1 := hrow.below hB1 hrow.lt
          have low1 := hlow.trans (hB1.mono hlow.size)
          have hw1 := hwl.later hB1 hB1.size
          have HGV := Lib.hid hgv
          clear cp hrow hlow hB1 hwl hgv
          have hgm : IntKind.u32.wrap (g : Int) = (g : Int) := by rw [IntKind.wrap_u32]; omega
          go_wp2_with fail
          obtain ⟨S, hSd⟩ : ∃ S : World → Prop, S = fun w' => w'.cell? ⟨w.heap.size, 0, none⟩ = some (.bool false) ∧ w'.cell? ⟨w.heap.size, 1, none⟩ = some (.slice none 0 0) := ⟨_, rfl⟩
          have hSr : ∀ V, Row V (w.heap.size) 33 [.bool false, .slice none 0 0] → S V := fun V h0 => by rw [hSd]; exact ⟨h0.cell 0 _ rfl, h0.cell 1 _ rfl⟩
          have HSR := Lib.hid hSr
          refine wp_region_held (S := S) (by kernel_rfl) ?_
          change wpAnyH _ _ _ _ _ _ _ _ W1.drew
          have hS0 : S W1.drew := hSr _ row1
          have c0_0 : Row W1.drew (w.heap.size) 33 [.bool false, .slice none 0 0] := row1
          have bd_0 : Below w.heap.size w W1.drew := (low1).drew
          obtain ⟨V0, hV0⟩ : ∃ V0, V0 = W1.drew := ⟨_, rfl⟩
          rw [← hV0] at hS0 c0_0 bd_0 ⊢
          subst hSd
          clear hSr
          have hw2 : Wl V0 V0.heap.size _ _ := hw1.later (by rw [hV0]; exact (Below.refl _ _).drew) (by rw [hV0]; exact Nat.le_refl _)
          clear hV0 hw1
          refine wpAnyH_take (i := 0) (v := .slice A m c) rfl (by kernel_rfl) (by kernel_rfl) (by kernel_rfl) (fun _ _ _ h => h) (Or.inl ⟨by rfl, by intro w hSw; go_simp⟩) hS0 ?_
          refine wpAnyH_take (i := 1) (v := .int .u64 (g : Int)) rfl (by kernel_rfl) (by kernel_rfl) (by kernel_rfl) (fun _ _ _ h => h) (Or.inl ⟨by rfl, by intro w hSw; go_simp⟩) hS0 ?_
          refine wpAnyH_take (i := 2) (v := .int .u32 (g : Int)) rfl (by kernel_rfl) (by kernel_rfl) (by kernel_rfl) (fun _ _ _ h => h) (Or.inl ⟨by rfl, by intro w hSw; go_simp⟩) hS0 ?_
          dsimp only [Act.put, List.getElem_toArray, List.getElem_cons_succ, List.getElem_cons_zero, List.setIfInBounds_toArray, List.set_cons_zero, List.set_cons_succ]
          refine wpAnyH_take (i := 4) (v := .string t) rfl (by kernel_rfl) (by kernel_rfl) (by kernel_rfl) (fun _ _ _ h => h) (Or.inl ⟨by rfl, by intro w hSw; go_simp⟩) hS0 ?_
          refine wpAnyH_take (i := 5) (v := .int .i64 (n : Int)) rfl (by kernel_rfl) (by kernel_rfl) (by kernel_rfl) (fun _ _ _ h => h) (Or.inl ⟨by rfl, by intro w hSw; go_simp⟩) hS0 ?_
          refine wpAnyH_take (i := 6) (v := .string (t.extract n t.size)) rfl (by kernel_rfl) (by kernel_rfl) (by kernel_rfl) (fun _ _ _ h => h) (Or.inl ⟨by rfl, by intro w hSw; go_simp⟩) hS0 ?_
          dsimp only [Act.put, List.getElem_toArray, List.getElem_cons_succ, List.getElem_cons_zero, List.setIfInBounds_toArray, List.set_cons_zero, List.set_cons_succ]
          simp only [List.setIfInBounds_toArray, List.set_cons_zero, List.set_cons_succ]
          refine one_ready (i := 3) (by kernel_rfl) rfl (fun K hK => ?_)
          go_simp
          refine (scaleL_any A m c 1000000000 g 1000000000 g rfl rfl (ws N) (by have := hml.out; omega) (ws_dig N) (by decide) (by omega) V0 (rd_of HMM.out hw2)).mono ?_
          rintro e U1 ⟨⟨v, rfl, hv⟩, hB1⟩
          rw [ws_val] at hv
          have hv' := hv
          obtain ⟨A2, c2, rfl, -, -, -⟩ := hv'
          dsimp only
          have c0_1 := c0_0.below hB1 c0_0.lt
          have bd_1 := bd_0.trans (hB1.mono bd_0.size)
          have hS1 := HSR.out U1 c0_1
          refine hK.out _ _ hS1 (fun _ => ?_)
          clear hK K hS0 bd_0 c0_0 
          refine wpAnyH_take (i := 7) (v := .slice A2 (ws (N * 1000000000 + g)).length c2) rfl (by kernel_rfl) (by kernel_rfl) (by kernel_rfl) (fun _ _ _ h => h) (Or.inl ⟨by rfl, by intro w hSw; go_simp⟩) hS1 ?_
          refine wpAnyH_take (i := 8) (v := .string (t.extract n t.size)) rfl (by kernel_rfl) (by kernel_rfl) (by kernel_rfl) (fun _ _ _ h => h) (Or.inl ⟨by rfl, by intro w hSw; go_simp⟩) hS1 ?_
          dsimp only [Act.put, List.getElem_toArray, List.getElem_cons_succ, List.getElem_cons_zero, List.setIfInBounds_toArray, List.set_cons_zero, List.set_cons_succ]
          simp only [List.setIfInBounds_toArray, List.set_cons_zero, List.set_cons_succ]
          refine wpAnyH_done (by kernel_rfl) ?_ _
          go_wp2_with fail
          go_roundw
          case rel => exact ⟨p + n, _, rfl, Lib.hid (by rw [extractE, ht.out, List.drop_drop]), hpn, hmod, (by rw [hstep.out, ← HNN.out, ← HGV.out]; exact hv), c0_1, bd_1⟩
          case measure =>
            have h1 : (t.extract n t.size).data.toList.length = (t.extract n t.size).size := Array.length_toList
            have h2 : t.data.toList.length = t.size := Array.length_toList
            have h3 := HN1.out
            rw [extractE, List.length_drop, h2] at h1
            show (t.extract n t.size).size < t.size
            omega
    · have hcode : Hid (codeP s = 2) := Lib.hid (by unfold codeP; rw [if_neg hsz.out, if_pos hp])
      by_cases hd : DecOK u
      · have hok1 : ok = true := by rw [hok]; exact decide_eq_true hd
        have hz1 : z = true := hz2.2 (Classical.byContradiction fun h => hp ⟨by rw [← HU.out]; exact hd, h⟩)
        subst hok1
        subst hz1
        clear hz2 hok hp hd
        go_enter Tryd.func16, Tryd.ntmps16
        go_wp2_with fail
        rw [← hw1]
        clear hw1
        refine hcut.mono ?_
        rintro e w' ⟨rfl, rfl⟩
        go_wp2_with fail
        refine hdec.mono ?_
        rintro e w' ⟨rfl, rfl⟩
        go_wp2_with fail
        exact bodyPost_ret (res_row_tmp rfl rfl (b1.set2 _ _) Tryd.underlying33 rfl sizeW) rfl (HF.out 2 _ hcode.out (by decide) (bw.trans (hset.low.mono (by omega))))
      · have hok1 : ok = false := by rw [hok]; exact decide_eq_false hd
        subst hok1
        clear hz2 hok hp hd
        go_enter Tryd.func16, Tryd.ntmps16
        go_wp2_with fail
        rw [← hw1]
        clear hw1
        refine hcut.mono ?_
        rintro e w' ⟨rfl, rfl⟩
        go_wp2_with fail
        refine hdec.mono ?_
        rintro e w' ⟨rfl, rfl⟩
        go_wp2_with fail
        exact bodyPost_ret (res_row_tmp rfl rfl (b1.set2 _ _) Tryd.underlying33 rfl sizeW) rfl (HF.out 2 _ hcode.out (by decide) (bw.trans (hset.low.mono (by omega))))
end Go.Proofs.YtmpdoikdadjneaaDoor

/- slices.Reverse of bytes: its text is walked as the shelf's contract walks it at ints. -/
namespace Go.Proofs.YtmpdoikdadjneaaDoor
open Go.RowKit Go.Shelf Go.Lib Go.Sort Hb Vm Ds

def eb (z : Int) : Value := .int .u8 z
set_option maxHeartbeats 1600000 in
set_option maxRecDepth 1000000 in
theorem rev_any (blk off cap : Nat) (d : Array Int) (w : World) (hH : Holds eb w blk off d) (hsz : d.size ≤ 9223372036854775807) :
    Calls Tryd.prog 55 #[.slice (some ⟨blk, off, none⟩) d.size cap] w fun e w' => e = .returned (.tuple #[]) ∧ ∃ n, w' = putRow eb (Sort.ahead w n) blk off d.reverse := by
  have mixed : Tryd.prog.follows .mixedOrders = true := by kernel_rfl
  go_enter Tryd.func55, Tryd.ntmps55
  go_wp2
  go_loopg [2, 3] d.size (fun k s2 s3 wr => ∃ (i jn : Nat) (jz : Int) (dk : Array Int) (n : Nat), s2 = .int .i64 i ∧ s3 = .int .i64 jz ∧ ((i : Int) < jz → jz = jn ∧ jn < d.size) ∧ (¬ (i : Int) < jz → ¬ i < jn) ∧ jn - i ≤ k ∧
    dk.size = d.size ∧ wr = putRow eb (Sort.ahead w n) blk off dk ∧ reverseLoop i jn dk = reverseLoop 0 (d.size - 1) d)
  case atStart => exact ⟨0, d.size - 1, (d.size : Int) - 1, d, 0, rfl, by first | rfl | (unfold wrap64; congr 1; omega), fun h => ⟨by omega, by omega⟩, fun h => by omega, by omega, rfl, (putRow_self eb w blk off d hH).symm, rfl⟩
  case round =>
    obtain ⟨i, jn, jz, dk, n, rfl, rfl, h1, h2, hk, hds, hwr, heq⟩ := hrel
    by_cases hlt : (i : Int) < jz
    · obtain ⟨rfl, hjn⟩ := h1 hlt
      have hij : i < jn := by omega
      have hHk : Holds eb wr blk off dk := by rw [hwr]; exact holds_putRow eb _ blk off d dk (holds_ahead eb w n blk off d hH) hds
      obtain ⟨ci, fi⟩ := hHk i (by omega)
      obtain ⟨cj, fj⟩ := hHk jn (by omega)
      unfold eb at ci cj
      have A : Aside (wr = putRow eb (Sort.ahead w n) blk off dk) := hwr
      clear hwr hHk hH h1 h2
      go_wp2_with fail
      go_region_o
      go_wp2
      go_roundg (jn - 1 - (i + 1))
      case measure => omega
      case rel =>
        rw [reverseLoop, if_pos hij] at heq
        exact ⟨i + 1, jn - 1, (jn : Int) - 1, swp dk i jn, n + 1, by simp, by first | rfl | (unfold wrap64; congr 1; omega), fun h => ⟨by omega, by omega⟩, fun h => by omega, Nat.le_refl _, by rw [size_swp]; exact hds,
          swap_world eb (by omega) (by omega) A.out (by first | rfl | simp [eb, getElem!_pos, show jn < dk.size by omega]) (by first | rfl | simp [eb, getElem!_pos, show i < dk.size by omega]), heq⟩
    · have hnot := h2 hlt
      go_wp2
      go_end0
      refine ⟨rfl, n, ?_⟩
      rw [reverseLoop, if_neg hnot] at heq
      rw [← Lib.reverseLoop_reverse, ← heq]
theorem rev_own {base g n cap : Nat} (L : List Int) (w : World) (h : w.ownsRow base 5 1 (.slice (some ⟨g, 0, none⟩) n cap) n (L.map eb)) (hn : n ≤ 9223372036854775807) :
    Calls Tryd.prog 55 #[.slice (some ⟨g, 0, none⟩) n cap] w fun e W' => e = .returned (.tuple #[]) ∧ (∀ j, j < n → W'.cell? ⟨g, j, none⟩ = some (eb (L.reverse.getD j 0))) ∧ Below base w W' := by
  have hl : L.length = n := by simpa using h.1
  have hH : Holds eb w g 0 L.toArray := fun j hj => by
    have hj' : j < L.length := by simpa using hj
    rw [Nat.zero_add]
    refine ⟨?_, h.frozenAt j⟩
    rw [h.cellAt j (by omega), List.getElem?_map, List.getElem?_eq_getElem hj']
    simp [getElem!_pos, hj']
  have hg : base ≤ g := (h.lt g rfl).1
  have hc := rev_any g 0 cap L.toArray w hH (by simpa [hl] using hn)
  rw [show L.toArray.size = n from by simpa using hl] at hc
  refine hc.mono ?_
  rintro e W ⟨rfl, m, rfl⟩
  refine ⟨rfl, fun j hj => ?_, ?_⟩
  · have hr := holds_putRow eb (Sort.ahead w m) g 0 L.toArray L.toArray.reverse (holds_ahead eb w m g 0 _ hH) (by simp)
    have := (hr j (by simpa [hl] using hj)).1
    rw [Nat.zero_add] at this
    rw [this]
    have hj2 : j < L.reverse.length := by rw [List.length_reverse]; omega
    rw [List.getD_eq_getElem?_getD, List.getElem?_eq_getElem hj2]
    have hj3 : j < L.toArray.reverse.size := by simpa [hl] using hj
    rw [getElem!_pos L.toArray.reverse j hj3]
    simp
  · refine ⟨rfl, rfl, rfl, by rw [size_putRow]; exact Nat.le_refl _, fun k hk => ?_⟩
    unfold putRow mapBlock
    show (w.heap.modify g _)[k]? = w.heap[k]?
    rw [Array.getElem?_modify, if_neg (by omega)]
end Go.Proofs.YtmpdoikdadjneaaDoor

/- What String answers. -/
namespace Go.Proofs.YtmpdoikdadjneaaDoor
open Go.RowKit Go.Shelf Hb Vm Ds Vr

def dv (d : Nat) : Value := .int .u8 (48 + (d : Int))
/-- the bytes of the decimal text of an integer -/
def decI (z : Int) : List Int := if z = 0 then [48] else (if z < 0 then [45] else []) ++ ((digs 10 z.natAbs).map (fun d : Nat => 48 + (d : Int))).reverse
def decS (z : Int) : ByteArray := strOfNums (decI z)
theorem infoB : (Tryd.prog.info? 5).map (fun i => (i.zero, i.size, i.bytes)) = some (some (.int .u8 0), 1, 1) := by kernel_rfl
theorem not_tag {W : World} {v : Value} {a : Addr} {n c : Nat} (ht : TagW W v) (hv : v = .slice (some a) n c) {base k : Nat} {x : Value} {xs : List Value} (hr : W.ownsRow base 5 1 x k xs) : x.ownBlock ≠ some a.block := by
  obtain ⟨cs, f, hc⟩ := ht a n c hv
  rcases hr.2 with ⟨rfl, _⟩ | ⟨g, cap, cur, rfl, _, hgb, _⟩
  · simp [Value.ownBlock]
  · intro e'
    obtain rfl : g = a.block := by simpa [Value.ownBlock] using e'
    have := hc.symm.trans hgb
    simp at this
theorem TagW.grown {W W' : World} {v x : Value} (ht : TagW W v) (hg : W.grownBy W' x.ownBlock) (hlt : ∀ a n c, v = .slice (some a) n c → a.block < W.heap.size) (hne : ∀ a n c, v = .slice (some a) n c → x.ownBlock ≠ some a.block) : TagW W' v := fun a n c hv => by
  obtain ⟨cs, f, hc⟩ := ht a n c hv
  exact ⟨cs, f, (hg.block _ (hlt a n c hv) (hne a n c hv).symm).trans hc⟩

theorem TagW.alloc {W : World} {v : Value} (ht : TagW W v) (o : Obj) : TagW (W.alloc o) v := fun a n c hv => by
  obtain ⟨cs, f, hc⟩ := ht a n c hv
  exact ⟨cs, f, (Below.heap_alloc _ _ _ (Array.getElem?_eq_some_iff.1 hc).1).trans hc⟩
theorem Wl.grown {W W' : World} {B n k base : Nat} {v x : Value} {xs : List Value} (h : Wl W B v n) (ht : TagW W v) (hr : W.ownsRow base 5 1 x k xs) (hg : W.grownBy W' x.ownBlock) (hB : B ≤ W.heap.size) : Wl W' B v n ∧ TagW W' v := by
  have hlt : ∀ a n c, v = .slice (some a) n c → a.block < W.heap.size := fun a n c hv => by
    obtain ⟨cs, f, hc⟩ := ht a n c hv
    exact (Array.getElem?_eq_some_iff.1 hc).1
  refine ⟨?_, ht.grown hg hlt (fun a n c hv => not_tag ht hv hr)⟩
  obtain ⟨A, c, rfl, hrd, h2, h3⟩ := h
  refine ⟨A, c, rfl, ⟨hrd.1, fun hn => ?_⟩, h2, h3⟩
  obtain ⟨a, rfl, hl, hc⟩ := hrd.2 hn
  refine ⟨a, rfl, hl, fun j u hu => ?_⟩
  have h1 := hc j u hu
  rw [← h1]
  exact World.cell?_of_block (hg.block _ (by rw [add_block]; omega) (by rw [add_block]; exact (not_tag ht rfl hr).symm))
theorem own_shrink {W : World} {base g cap n k : Nat} {e : TypeId} {xs : List Value} (h : W.ownsRow base e 1 (.slice (some ⟨g, 0, none⟩) n cap) n xs) (hk : k ≤ n) : W.ownsRow base e 1 (.slice (some ⟨g, 0, none⟩) k cap) k (xs.take k) := by
  have hl : xs.length = n := by simpa using h.1
  rcases h.2 with ⟨h0, _⟩ | ⟨g', cap', cur, hv, hb, hh, h1, h2, h3, h4⟩
  · cases h0
  · cases hv
    refine ⟨by rw [List.length_take, hl]; omega, .inr ⟨g, cap, cur, rfl, hb, hh, by omega, h2, h3, ?_⟩⟩
    rw [← h4, List.take_take]
    congr 1
    omega
theorem dig_step (v P g E M N : Nat) (h : v + P * (g + E * 10 * M) = N) : (v + P * (g % 10)) + P * 10 * (g / 10 + E * M) = N := by
  have e1 : E * 10 * M = 10 * (E * M) := by rw [Nat.mul_comm E 10, Nat.mul_assoc]
  have e2 : g + E * 10 * M = g % 10 + 10 * (g / 10 + E * M) := by rw [e1]; omega
  rw [← h, e2]
  generalize g / 10 + E * M = q
  rw [Nat.mul_add, Nat.mul_assoc P 10 q, Nat.add_assoc]

set_option maxRecDepth 100000 in
set_option maxHeartbeats 8000000 in
theorem str_any (x : Int) (vx : Value) (w : World) (hvx : Wi w w.heap.size vx x) (hlx : (ws x.natAbs).length ≤ 90000) :
    Calls Tryd.prog 19 #[vx] w fun e W' => e = .returned (.string (decS x)) ∧ Below w.heap.size w W' := by
  obtain ⟨i0, hi, hz0, hz1, hz2⟩ := info_parts infoB
  obtain ⟨ux, rfl, hx⟩ := hvx
  have hx' := hx
  obtain ⟨A, c, rfl, -, -, -⟩ := hx'
  unfold intV
  obtain ⟨N, hN⟩ : ∃ N, N = x.natAbs := ⟨_, rfl⟩
  rw [← hN] at hx hlx ⊢
  obtain ⟨n, hn⟩ : ∃ n, n = (ws N).length := ⟨_, rfl⟩
  obtain ⟨s, hs⟩ : ∃ s, s = decide (x < 0) := ⟨_, rfl⟩
  have hn0 : (ws N).length = 0 ↔ N = 0 := digs_nil (by decide)
  rw [← hn] at hx hlx hn0 ⊢
  rw [← hs]
  have hw1 : ∃ w1, w1 = w.alloc (.cells #[.bool s, .slice A n c] 33) := ⟨_, rfl⟩
  obtain ⟨w1, hw1⟩ := hw1
  have b1 : Row w1 w.heap.size 33 [.bool s, .slice A n c] := by rw [hw1]; exact Row.new w _ [.bool s, .slice A n c]
  have bw : Below w.heap.size w w1 := by rw [hw1]; exact (Below.refl _ w).alloc (Nat.le_refl _) _
  have z1 : w1.heap.size = w.heap.size + 1 := by rw [hw1]; simp
  have k1 := b1.cell 1 _ rfl
  have HS := Lib.hid hs
  have Z1 := Lib.hid z1
  clear z1
  have HNN := Lib.hid hn
  have HN := Lib.hid hN
  have HL := Lib.hid hlx
  by_cases hz : N = 0
  · have hnz := hn0.2 hz
    have he : Hid (decS x = ⟨#[48]⟩) := Lib.hid (by
      have : x = 0 := by omega
      subst this; rfl)
    subst hnz
    clear hn hs hN hlx hn0 hz
    go_enter Tryd.func19, Tryd.ntmps19
    go_wp2_with fail
    rw [← hw1]
    go_ret
    exact ⟨by rw [he.out]; rfl, bw⟩
  · have hnn : ((n : Int) == 0) = false := beq_eq_false_iff_ne.2 (by have : n ≠ 0 := fun e => hz (hn0.1 e); omega)
    have HZ := Lib.hid hz
    have hlen10 : (digs 10 N).length ≤ 2880000 := words_ten 90000 _ _ _ (by decide) (Nat.le_refl _) (by have := HL.out; rw [HNN.out] at this; exact this)
    have HT10 := Lib.hid hlen10
    clear hlen10
    have hx1 := hx.later bw bw.size
    clear hn hs hN hlx hn0 hz hx
    go_enter Tryd.func19, Tryd.ntmps19
    go_wp2_with fail
    rw [← hw1]
    clear hw1
    go_loopw [3, 4] (fun tv lv W => ∃ (T : List Nat) (M : Nat), W.ownsRow (w.heap.size + 1) 5 1 tv T.length (T.map dv) ∧ Wl W W.heap.size lv M ∧ Hid (Dig 10 T) ∧ Hid (val 10 T + 10 ^ T.length * M = N) ∧ Hid (M ≤ N) ∧ Below (w.heap.size + 1) w1 W) (fun _ lv W => wnum W lv)
    case atStart => exact ⟨[], N, World.ownsRow_nil _ _ _ _, hx1, Lib.hid (Dig.nil 10), Lib.hid (by simp [val_nil]), Lib.hid (Nat.le_refl _), Below.refl _ _⟩
    case round =>
      obtain ⟨T, M, hown, hwl, hdT, hval, hMN, hB⟩ := hrel
      obtain ⟨TA, tc, rfl⟩ := own_form hown
      have hwl' := hwl
      obtain ⟨LA, lc, rfl, hrd, -, -⟩ := hwl'
      have hmw := Lib.hid (wnum_eq hwl)
      have hm0 : (ws M).length = 0 ↔ M = 0 := digs_nil (by decide)
      have hml : Hid ((ws M).length ≤ 90000) := Lib.hid (Nat.le_trans (len_mono hMN.out) (by rw [← HNN.out]; exact HL.out))
      obtain ⟨m, hm⟩ : ∃ m, m = (ws M).length := ⟨_, rfl⟩
      rw [← hm] at hwl hrd hm0 ⊢
      have HM := Lib.hid hm
      rw [← hm] at hmw
      clear hm
      by_cases hmz : M = 0
      · have hmn := hm0.2 hmz
        subst hmn
        have hvN : Hid (val 10 T = N) := Lib.hid (by have := hval.out; rw [hmz] at this; simpa using this)
        clear hm0 hrd hmw hval hMN hwl hml
        go_wp2_with fail
        go_loopw [3] (fun tv W => ∃ T : List Nat, W.ownsRow (w.heap.size + 1) 5 1 tv T.length (T.map dv) ∧ Hid (Dig 10 T) ∧ Hid (val 10 T = N) ∧ Below (w.heap.size + 1) w1 W) (fun tv _ => match tv with | .slice _ n _ => n | _ => 0)
        case atStart => exact ⟨T, hown, hdT, hvN, hB⟩
        case round =>
          clear hown hdT hvN hB
          obtain ⟨T, hown, hdT, hvN, hB⟩ := hrel
          rcases List.eq_nil_or_concat T with rfl | ⟨T0, d, rfl⟩
          · exact absurd hvN.out.symm HZ.out
          · rw [List.concat_eq_append] at hown hdT hvN
            rw [List.length_append, List.length_singleton] at hown
            obtain ⟨l, hl⟩ : ∃ l, l = T0.length := ⟨_, rfl⟩
            rw [← hl] at hown
            obtain ⟨TA3, cap, rfl⟩ := own_form hown
            obtain ⟨g, rfl⟩ : ∃ g, TA3 = some ⟨g, 0, none⟩ := by
              rcases hown.2 with ⟨_, h0⟩ | ⟨g, cap, cur, hv, _⟩
              · omega
              · cases hv; exact ⟨g, rfl⟩
            have hcell : wr.cell? ⟨g, l, none⟩ = some (.int .u8 (48 + (d : Int))) := by
              rw [hown.cellAt l (by omega), List.map_append, List.getElem?_append_right (by simp [hl])]
              simp [hl, dv]
            have hml : l + 1 ≤ maxLen := by
              rcases hown.2 with ⟨_, h0⟩ | ⟨g', cap', cur, hv, _, _, h1, h2, _⟩
              · omega
              · omega
            have hcl : l + 1 ≤ cap := by
              rcases hown.2 with ⟨h0, _⟩ | ⟨g', cap', cur, hv, _, _, h1, _⟩
              · cases h0
              · cases hv; exact h1
            have hcl1 : (l : Int) ≤ (cap : Int) := by omega
            have hcl0 : (0 : Int) ≤ (l : Int) := by omega
            have hcl2 : cap ≠ 0 := by omega
            have HL2 := Lib.hid hl
            have k0 := (b1.below hB (Nat.lt_succ_self _)).cell 0 _ rfl
            unfold maxLen at hml
            have e1 : wrap64 ((l : Int) + 1 - 1) = (l : Int) := by unfold wrap64; omega
            by_cases hd : d = 0
            · subst hd
              clear hl hcl
              go_wp2_with fail
              have hs := own_shrink hown (Nat.le_succ l)
              go_roundw
              case rel => exact ⟨T0, own_cast hs HL2.out (by rw [List.map_append, List.take_append_of_le_length (by simp [HL2.out]), List.take_of_length_le (by simp [HL2.out])]), Lib.hid (fun y hy => hdT.out y (List.mem_append_left _ hy)), Lib.hid (by have := hvN.out; rw [val_snoc] at this; simpa using this), hB⟩
              case measure => simp
            · have hdn : ((48 + (d : Int)) == 48) = false := beq_eq_false_iff_ne.2 (by omega)
              have hdig : Hid (digs 10 N = T0 ++ [d]) := Lib.hid (by rw [← hvN.out]; exact digs_of (by decide) hdT.out (fun h => by rw [List.getLast_append]; simpa using hd))
              have hxz : x ≠ 0 := fun e => HZ.out (by rw [HN.out, e]; rfl)
              have hdec : ∀ L : List Int, L.reverse = (if x < 0 then [45] else []) ++ ((digs 10 N).map (fun d : Nat => 48 + (d : Int))).reverse → Hid (decS x = strOfNums L.reverse) := fun L hL => Lib.hid (by unfold decS decI; rw [if_neg hxz, ← HN.out, ← hL])
              have hmap : ∀ T : List Nat, T.map dv = (T.map (fun d : Nat => 48 + (d : Int))).map eb := fun T => by rw [List.map_map]; rfl
              have HMAP := Lib.hid hmap
              have HDEC := Lib.hid hdec
              clear hl hcl hxz hdec hmap
              have hsz := hB.size
              have Z2 := Z1.out
              cases s with
              | false =>
                have hxn : Hid (¬ x < 0) := Lib.hid (fun h => by have := HS.out; rw [decide_eq_true h] at this; cases this)
                have hrv := rev_own ((T0 ++ [d]).map (fun d : Nat => 48 + (d : Int))) wr (own_cast hown rfl (HMAP.out _)) (by omega)
                have hds := HDEC.out ((T0 ++ [d]).map (fun d : Nat => 48 + (d : Int))) (by rw [if_neg hxn.out, hdig.out, List.nil_append])
                have hll : Hid (((T0 ++ [d]).map (fun d : Nat => 48 + (d : Int))).reverse.length = l + 1) := Lib.hid (by simp [HL2.out])
                obtain ⟨L, hL⟩ : ∃ L, L = ((T0 ++ [d]).map (fun d : Nat => 48 + (d : Int))).reverse := ⟨_, rfl⟩
                rw [← hL] at hrv hds hll
                clear hL
                go_wp2_with fail
                refine hrv.mono ?_
                rintro e W2 ⟨rfl, hcells, hB2⟩
                have hcv := fun dst hd => run_convert_bytes_arg (P := Tryd.prog) W2 29 5 Tryd.underlying29 Tryd.underlying5 g 0 (l + 1) cap L hll.out (fun i hi => by rw [Nat.zero_add]; exact hcells i hi) dst hd
                have hcv2 := hcv _ Tryd.underlying9
                clear hrv hcv hcells
                go_wp2_with fail
                go_ret
                exact ⟨by rw [hds.out]; rfl, bw.trans ((hB.mono (by omega)).trans (hB2.mono (by omega)))⟩
              | true =>
                have hxn : Hid (x < 0) := Lib.hid (of_decide_eq_true HS.out.symm)
                have h10 : l + 1 ≤ 2880000 := by have := HT10.out; rw [hdig.out] at this; simp at this; have := HL2.out; omega
                go_wp2_with (at_builtin; refine wpList_append_own _ rfl _ _ 29 rfl (w.heap.size + 1) 5 i0 (.int .u8 0) 1 1 Tryd.underlying29 hi hz0 hz1 hz2 rfl (by decide) (.slice (some ⟨g, 0, none⟩) (l + 1) cap) (l + 1) _ rfl (hown.alloc _) ⟨wr.heap.size, 0, none⟩ 1 1 [Value.int .u8 45] rfl rfl (cell_one_new _ _ _) (by simp [Value.oneCell']) (by unfold maxLen; omega) (by omega) (by simp; omega) ?_; intro v' w2 hown' hgrow _)
                have hB2 : Below (w.heap.size + 1) w1 w2 := own_grown (hB.alloc (by omega) _) (hown.alloc _) hgrow (by simp; omega)
                have hown3 : w2.ownsRow (w.heap.size + 1) 5 1 v' (l + 1 + 1) (((T0 ++ [d]).map (fun d : Nat => 48 + (d : Int)) ++ [45]).map eb) := own_cast hown' rfl (by rw [HMAP.out]; generalize (T0 ++ [d]).map (fun d : Nat => 48 + (d : Int)) = L0; rw [List.map_append]; rfl)
                obtain ⟨TA4, cap4, rfl⟩ := own_form hown3
                obtain ⟨g4, rfl⟩ : ∃ g, TA4 = some ⟨g, 0, none⟩ := by
                  rcases hown3.2 with ⟨_, h0⟩ | ⟨g, cap, cur, hv, _⟩
                  · omega
                  · cases hv; exact ⟨g, rfl⟩
                have hrv := rev_own ((T0 ++ [d]).map (fun d : Nat => 48 + (d : Int)) ++ [45]) w2 hown3 (by omega)
                have hds := HDEC.out ((T0 ++ [d]).map (fun d : Nat => 48 + (d : Int)) ++ [45]) (by rw [if_pos hxn.out, hdig.out, List.reverse_append]; rfl)
                have hll : Hid (((T0 ++ [d]).map (fun d : Nat => 48 + (d : Int)) ++ [45]).reverse.length = l + 1 + 1) := Lib.hid (by simp [HL2.out])
                obtain ⟨L, hL⟩ : ∃ L, L = ((T0 ++ [d]).map (fun d : Nat => 48 + (d : Int)) ++ [45]).reverse := ⟨_, rfl⟩
                rw [← hL] at hrv hds hll
                have hs2 := hB2.size
                clear hL hown hown' hown3 hgrow hB k0 hcell
                go_wp2_with fail
                refine hrv.mono ?_
                rintro e W2 ⟨rfl, hcells, hB3⟩
                have hcv := fun dst hd => run_convert_bytes_arg (P := Tryd.prog) W2 29 5 Tryd.underlying29 Tryd.underlying5 g4 0 (l + 1 + 1) cap4 L hll.out (fun i hi => by rw [Nat.zero_add]; exact hcells i hi) dst hd
                have hcv2 := hcv _ Tryd.underlying9
                clear hrv hcv hcells
                go_wp2_with fail
                go_ret
                exact ⟨by rw [hds.out]; rfl, bw.trans ((hB2.mono (by omega)).trans (hB3.mono (by omega)))⟩
      · have hmp : 0 < m := Nat.pos_of_ne_zero fun e => hmz (hm0.1 e)
        have hmp' : (0 : Int) < (m : Int) := by omega
        have hTN : T.length < (digs 10 N).length := by
          rcases Nat.lt_or_ge T.length (digs 10 N).length with h | h
          · exact h
          · exfalso
            have h1 := digs_lt (b := 10) (by decide) N
            have h2 := Nat.pow_le_pow_right (n := 10) (by decide) h
            have h3 := hval.out
            have h4 : 10 ^ T.length * 1 ≤ 10 ^ T.length * M := Nat.mul_le_mul_left _ (Nat.pos_of_ne_zero hmz)
            omega
        have HTL := Lib.hid (Nat.le_trans (Nat.le_of_lt hTN) HT10.out)
        clear hTN
        have ct := shortT_any LA m lc 1000000000 (ws M) (by have := hml.out; have := HM.out; omega) (ws_dig M) (by decide) (by decide) wr (HM.out ▸ hrd)
        have HMP := Lib.hid hmz
        clear hm0 hrd hmz
        go_wp2_with fail
        refine ct.mono ?_
        rintro e W1 ⟨⟨v, r, rfl, hv, hr, htag⟩, hB1⟩
        rw [ws_val] at hv hr
        have own1 := own_below hown hB1 (Nat.le_refl _)
        have low1 := hB.trans (hB1.mono (by have := hB.size; have := Z1.out; omega))
        have hv' := hv
        obtain ⟨QA, qc, rfl, hqr, -, -⟩ := hv'
        have hrl : r < 1000000000 := by rw [hr]; exact Nat.mod_lt _ (by decide)
        have HR := Lib.hid hr
        clear ct hwl hown hB hB1 hr
        obtain ⟨qm, hqm⟩ : ∃ qm, qm = (ws (M / 1000000000)).length := ⟨_, rfl⟩
        rw [← hqm] at hv hqr htag ⊢
        have HQM := Lib.hid hqm
        clear hqm
        go_wp2_with fail
        go_loopw [3, 5, 20] (fun tv gv jv W => ∃ (T2 : List Nat) (g j : Nat), W.ownsRow (w.heap.size + 1) 5 1 tv T2.length (T2.map dv) ∧ gv = .int .u32 g ∧ jv = .int .i64 j ∧ j ≤ 9 ∧ Hid (T2.length = T.length + j) ∧ g < 1000000000 ∧ Hid (g < 10 ^ (9 - j)) ∧ Wl W W.heap.size (.slice QA qm qc) (M / 1000000000) ∧ TagW W (.slice QA qm qc) ∧ Hid (Dig 10 T2) ∧ Hid (val 10 T2 + 10 ^ T2.length * (g + 10 ^ (9 - j) * (M / 1000000000)) = N) ∧ Below (w.heap.size + 1) w1 W) (fun _ _ jv _ => 9 - (intOf jv).toNat)
        case atStart => exact ⟨T, r, 0, own1, rfl, rfl, by omega, Lib.hid rfl, hrl, Lib.hid hrl, hv, htag, hdT, Lib.hid (by rw [HR.out, Nat.add_comm (M % 1000000000), show 10 ^ (9 - 0) = 1000000000 from rfl, Nat.div_add_mod]; exact hval.out), low1⟩
        case round =>
          obtain ⟨T2, g, j, hown, rfl, rfl, hj, hT2, hg, hg2, hwl, htg, hdT2, hval2, hB⟩ := hrel
          have hw9 := Lib.hid (wnum_eq hwl)
          obtain ⟨TA2, tc2, rfl⟩ := own_form hown
          by_cases hj9 : j = 9
          · subst hj9
            have hg0 : g = 0 := by have := hg2.out; simpa using this
            subst hg0
            clear hg hg2
            go_wp2_with fail
            go_roundw
            case rel => exact ⟨T2, M / 1000000000, hown, hwl, hdT2, Lib.hid (by have := hval2.out; simpa using this), Lib.hid (Nat.le_trans (Nat.div_le_self _ _) hMN.out), hB⟩
            case measure => rw [hw9.out, hmw.out]; exact Nat.div_lt_self (Nat.pos_of_ne_zero HMP.out) (by decide)
          · have hj9' : (j : Int) < 9 := by omega
            have hsz := hB.size
            have hT3 : T2.length ≤ 3000000 := by have := hT2.out; have := HTL.out; omega
            have Z2 := Z1.out
            go_wp2_with (at_builtin; refine wpList_append_own _ rfl _ _ 29 rfl (w.heap.size + 1) 5 i0 (.int .u8 0) 1 1 Tryd.underlying29 hi hz0 hz1 hz2 rfl (by decide) (.slice TA2 T2.length tc2) T2.length _ rfl (hown.alloc _) ⟨wr.heap.size, 0, none⟩ 1 1 [Value.int .u8 (48 + (g : Int) % 10)] rfl rfl (cell_one_new _ _ _) (by simp [Value.oneCell']) (by unfold maxLen; omega) (by omega) (by simp; omega) ?_; intro v' w2 hown' hgrow _)
            go_roundw
            case rel =>
              obtain ⟨hw2, ht2⟩ := (hwl.later ((Below.refl _ wr).alloc (Nat.le_refl _) _) (Nat.le_refl wr.heap.size)).grown (htg.alloc _) (hown.alloc _) hgrow (by simp)
              have e9 : 9 - j = (9 - (j + 1)) + 1 := by omega
              refine ⟨T2 ++ [g % 10], g / 10, j + 1, own_cast hown' (by simp) (by rw [List.map_append]; simp [dv]), by go_num, by go_num, by omega, Lib.hid (by rw [List.length_append, hT2.out]; simp; omega), by omega, Lib.hid ?_, hw2.grow (by have := hgrow.size; simp at this; omega), ht2, Lib.hid (hdT2.out.snoc (Nat.mod_lt _ (by decide))), Lib.hid ?_, own_grown (hB.alloc (by omega) _) (hown.alloc _) hgrow (by simp; omega)⟩
              · have := hg2.out
                rw [e9, Nat.pow_succ] at this
                exact Nat.div_lt_of_lt_mul (by rw [Nat.mul_comm]; exact this)
              · have := hval2.out
                rw [e9, Nat.pow_succ] at this
                rw [val_snoc, List.length_append, List.length_singleton, Nat.pow_succ]
                exact dig_step _ _ _ _ _ _ this
            case measure => simp [intOf]; omega
end Go.Proofs.YtmpdoikdadjneaaDoor
