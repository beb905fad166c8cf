/- What Pick answers, in the project and in the reference model. -/
import Derived.Test.YtagjecbgbpjobaaDver
import Derived.Test.YtagjecbgbpjobaaDmath2
namespace Go.Proofs.Ytagjecbgbpjobaa
open Go.RowKit Go.Shelf Hm Hb Dm Ds

/-- a slice that lies apart from the block that turns -/
theorem rd_but {w w' : World} {B p n : Nat} {A : Option Addr} {xs : List Value} (h : Rd w B A n xs) (hp : ∀ a, A = some a → a.block ≠ p) (hb : But B p w w') : Rd w' B A n xs :=
  ⟨h.1, fun hn => let ⟨a, e, hl, hc⟩ := h.2 hn; ⟨a, e, hl, fun j u hu => (World.cell?_of_block (w := w) (hb.block (by rw [add_block]; exact hl) (by rw [add_block]; exact hp a e))).trans (hc j u hu)⟩⟩
def sumE (o : Option Int) : Ending := .returned (.tuple #[.int .i64 (o.getD 0), .bool o.isSome])
theorem sum_bounds {ws : List Int} {k : Nat} {t : Int} (h : sumUp (ws.take k) 0 = some t) : 0 ≤ t ∧ t ≤ 1152921504606846976 := by
  have := sumUp_range _ 0 t (by omega) (by omega) h
  omega

set_option maxRecDepth 100000 in
set_option maxHeartbeats 1000000 in
theorem sumOf_any (A : Option Addr) (n c : Nat) (ws : List Int) (hw : ∀ x ∈ ws, -9223372036854775808 ≤ x ∧ x ≤ 9223372036854775807) (hn : n ≤ maxLen) (B : Nat) (w : World) (hr : Rd w B A n (ws.map iv)) :
    Calls Try.prog 58 #[.slice A n c] w fun e w' => e = sumE (sumUp ws 0) ∧ w = w' := by
  have hlx : ws.length = n := by simpa using hr.1
  unfold maxLen at hn
  have HX := Lib.hid hlx
  clear hlx
  go_enter Try.func58, Try.ntmps58
  go_wp2
  go_loop [2, 8] (fun s i => ∃ (k : Nat) (t : Int), k ≤ n ∧ i = .int .i64 k ∧ s = .int .i64 t ∧ sumUp (ws.take k) 0 = some t) (fun _ i => n - (intOf i).toNat)
  case atStart => exact ⟨0, 0, Nat.zero_le _, rfl, rfl, rfl⟩
  case round =>
    obtain ⟨k, t, hk, rfl, rfl, ht⟩ := hrel
    have hb := sum_bounds ht
    have HT := Lib.hid ht
    clear ht
    by_cases hlt : k < n
    · obtain ⟨a, u, rfl, hab, hu, hc⟩ := hr.at hlt
      have hkx : k < ws.length := by rw [HX.out]; exact hlt
      have hu' : u = iv ws[k] := by
        rw [List.getElem?_map, List.getElem?_eq_getElem hkx] at hu
        exact (Option.some.inj hu).symm
      subst hu'
      unfold iv at hc
      have hx := hw ws[k] (List.getElem_mem hkx)
      have HS := Lib.hid (sumUp_step ws k hkx t HT.out)
      clear hu hw
      generalize ws[k] = x at *
      by_cases h1 : x < 0
      · go_wp2
        go_ret2
        rw [HS.out.1 (.inl h1)]
        exact ⟨rfl, rfl⟩
      · by_cases h2 : x > 1152921504606846976 - t
        · go_wp2
          go_ret2
          rw [HS.out.1 (.inr h2)]
          exact ⟨rfl, rfl⟩
        · go_wp2
          go_round
          case rel => exact ⟨k + 1, t + x, by omega, by go_num, rfl, HS.out.2 (by omega)⟩
          case measure => simp [intOf]; omega
    · obtain rfl : k = n := by omega
      go_wp2
      go_ret2
      have := HT.out
      rw [List.take_of_length_le (by rw [HX.out]; omega)] at this
      rw [this]
      exact ⟨rfl, rfl⟩

theorem closure_any (x r : Int) (h : -4611686018427387904 ≤ r - x ∧ r - x ≤ 4611686018427387904) (B : Nat) (w : World) (hb : Boxed w B 3 (.int .i64 r)) :
    Calls Try.prog 60 #[.int .i64 x, .pointer (some ⟨B, 0, none⟩)] w fun e w' => e = .returned (.bool (decide (r - x < 0))) ∧ Boxed w' B 3 (.int .i64 (r - x)) ∧ Below B w w' := by
  have c0 := hb.cell
  have f0 := hb.frozen
  have b1 := hb.set (.int .i64 (r - x))
  have c1 := b1.cell
  have e1 : wrap64 (r - x) = r - x := by unfold wrap64; omega
  go_enter Try.func60, Try.ntmps60
  go_wp2
  go_ret
  exact ⟨rfl, b1, (Below.refl B w).setCell (p := ⟨B, 0, none⟩) (Nat.le_refl _) _⟩

set_option maxRecDepth 100000 in
set_option maxHeartbeats 1000000 in
theorem index_any (A : Option Addr) (n c : Nat) (ws : List Int) (h0 : ∀ x ∈ ws, 0 ≤ x) (hs : ws.sum ≤ 1152921504606846976) (hn : n ≤ maxLen) (r : Int) (hr0 : 0 ≤ r) (hr1 : r < ws.sum) (B : Nat) (w : World) (hr : Rd w B A n (ws.map iv)) (hb : Boxed w B 3 (.int .i64 r)) :
    Calls Try.prog 59 #[.slice A n c, .func (.func 60) #[] #[.pointer (some ⟨B, 0, none⟩)]] w fun e w' => e = .returned (.int .i64 (idx ws r : Int)) ∧ Below B w w' := by
  have hlx : ws.length = n := by simpa using hr.1
  unfold maxLen at hn
  have HX := Lib.hid hlx
  clear hlx
  go_enter Try.func59, Try.ntmps59
  go_wp2
  go_loopw [8] (fun i wr => ∃ k : Nat, k ≤ n ∧ i = .int .i64 k ∧ Boxed wr B 3 (.int .i64 (lessBy ws r k)) ∧ Below B w wr ∧ ∀ j, j < k → ¬ lessBy ws r (j + 1) < 0) (fun i _ => n - (intOf i).toNat)
  case atStart => exact ⟨0, Nat.zero_le _, rfl, by simpa [lessBy] using hb, Below.refl _ _, fun j hj => absurd hj (by omega)⟩
  case round =>
    obtain ⟨k, hk, rfl, hbx, hB, hno⟩ := hrel
    have HNO := Lib.hid hno
    clear hno
    by_cases hlt : k < n
    · obtain ⟨a, u, rfl, hab, hu, hc⟩ := (hr.below hB).at hlt
      have hkx : k < ws.length := by rw [HX.out]; exact hlt
      have hu' : u = iv ws[k] := by
        rw [List.getElem?_map, List.getElem?_eq_getElem hkx] at hu
        exact (Option.some.inj hu).symm
      subst hu'
      unfold iv at hc
      have e1 := lessBy_succ ws r k hkx
      have g1 := lessBy_range ws r h0 (k + 1)
      have hcl := closure_any ws[k] (lessBy ws r k) (by omega) B wr hbx
      rw [← e1] at hcl
      clear hu e1
      generalize hx : ws[k] = x at *
      clear hx
      by_cases hneg : lessBy ws r (k + 1) < 0
      · have HI := Lib.hid (idx_at ws r k hkx HNO.out hneg)
        rw [decide_eq_true hneg] at hcl
        clear hneg
        go_wp2_with fail
        refine hcl.mono ?_
        rintro e w2 ⟨rfl, hb2, hB2⟩
        clear hcl
        go_wp2_with fail
        go_ret
        exact ⟨by rw [HI.out]; rfl, hB.trans hB2⟩
      · rw [decide_eq_false hneg] at hcl
        have HG := Lib.hid hneg
        clear hneg
        go_wp2_with fail
        refine hcl.mono ?_
        rintro e w2 ⟨rfl, hb2, hB2⟩
        clear hcl
        go_wp2_with fail
        go_roundw
        case rel =>
          refine ⟨k + 1, by omega, by go_num, hb2, hB.trans hB2, fun j hj => ?_⟩
          by_cases hjk : j < k
          · have := HNO.out j hjk
            omega
          · obtain rfl : j = k := by omega
            have := HG.out
            omega
        case measure => simp [intOf]; omega
    · exfalso
      obtain ⟨g1, g2, g3, g4⟩ := idx_lt ws r hr0 hr1
      exact HNO.out (idx ws r) (by rw [HX.out] at g1; omega) g4

set_option maxRecDepth 100000 in
set_option maxHeartbeats 2000000 in
theorem pick_any (A : Option Addr) (n c : Nat) (ws : List Int) (hw : ∀ x ∈ ws, -9223372036854775808 ≤ x ∧ x ≤ 9223372036854775807) (hn : n ≤ maxLen) (p b : Nat) (h q : Int) (w : World) (d : Die w p b h q) (B : Nat) (hr : Rd w B A n (ws.map iv)) (hnp : ∀ a, A = some a → a.block ≠ p) (hB : B ≤ w.heap.size) :
    Calls Try.prog 32 #[.pointer (some ⟨p, 0, none⟩), .slice A n c] w fun e W' => e = numErr (pick h ws q).1 (pick h ws q).2.1 ∧ Die W' p b h (pick h ws q).2.2 ∧ But w.heap.size p w W' := by
  have hsum := sumOf_any A n c ws hw hn B w hr
  have lt1 := d.lt
  cases hS : sumUp ws 0 with
  | none =>
    rw [pick_none hS]
    rw [hS] at hsum
    unfold sumE at hsum
    simp only [Option.getD_none, Option.isSome_none] at hsum
    clear hS
    go_enter Try.func32, Try.ntmps32
    go_wp2_with fail
    refine hsum.mono ?_
    rintro e w' ⟨rfl, rfl⟩
    clear hsum
    go_wp2_with fail
    go_ret2
    exact ⟨rfl, d, But.refl _ _ _⟩
  | some t =>
    have hb := sumUp_range _ 0 t (by omega) (by omega) hS
    obtain ⟨hts, h0⟩ := sumUp_sum _ _ _ hS
    rw [hS] at hsum
    unfold sumE at hsum
    simp only [Option.getD_some, Option.isSome_some] at hsum
    by_cases ht : t = 0
    · subst ht
      rw [pick_zero hS]
      clear hS hts
      go_enter Try.func32, Try.ntmps32
      go_wp2_with fail
      refine hsum.mono ?_
      rintro e w' ⟨rfl, rfl⟩
      clear hsum
      go_wp2_with fail
      go_ret2
      exact ⟨rfl, d, But.refl _ _ _⟩
    · have hts' : t = ws.sum := by omega
      have hr3 := roll_any t (by omega) p b h q w d
      have HTS := Lib.hid hts'
      have HS := Lib.hid hS
      rcases roll_is h t q (by omega) with ⟨k0, k1, k2⟩ | ⟨k0, k1⟩
      · rw [pick_ok hS ht k0]
        rw [k0] at hr3
        generalize roll h t q = R at *
        obtain ⟨x, e, q'⟩ := R
        simp only at k0 k1 k2 hr3 ⊢
        clear k0 hS hts hts'
        go_enter Try.func32, Try.ntmps32
        go_wp2_with fail
        refine hsum.mono ?_
        rintro e w' ⟨rfl, rfl⟩
        clear hsum
        go_wp2_with fail
        refine hr3.mono ?_
        rintro e W1 ⟨rfl, d1, hB1⟩
        unfold numErr
        clear hr3
        have s1 := hB1.size
        have hr1 := rd_but hr hnp (hB1.mono hB)
        have bx := Boxed.new W1 3 (.int .i64 x)
        have hB2 : Below W1.heap.size W1 (W1.alloc (.cells #[.int .i64 x] 3)) := (Below.refl _ _).alloc (Nat.le_refl _) _
        have hi := index_any A n c ws h0 (by rw [← HTS.out]; omega) hn x k1 (by rw [← HTS.out]; exact k2) W1.heap.size _ ((hr1.mono (by omega)).below hB2) bx
        go_wp2_with fail
        refine hi.mono ?_
        rintro e W2 ⟨rfl, hB3⟩
        clear hi bx
        go_wp2_with fail
        go_ret2
        have hB4 := hB2.trans hB3
        exact ⟨rfl, d1.below hB4 d1.lt, hB1.later hB4 s1 (by omega)⟩
      · rw [pick_no hS ht k0]
        rw [k0, k1] at hr3
        generalize roll h t q = R at *
        obtain ⟨x, e, q'⟩ := R
        simp only at k0 k1 hr3 ⊢
        clear k0 k1 hS hts hts'
        go_enter Try.func32, Try.ntmps32
        go_wp2_with fail
        refine hsum.mono ?_
        rintro e w' ⟨rfl, rfl⟩
        clear hsum
        go_wp2_with fail
        refine hr3.mono ?_
        rintro e W1 ⟨rfl, d1, hB1⟩
        unfold numErr
        clear hr3
        have s1 := hB1.size
        have hB2 : Below W1.heap.size W1 (W1.alloc (.cells #[.int .i64 0] 3)) := (Below.refl _ _).alloc (Nat.le_refl _) _
        go_wp2_with fail
        go_ret2
        exact ⟨rfl, d1.below hB2 d1.lt, hB1.later hB2 s1 (by omega)⟩

/-! ### the reference model's -/
set_option maxRecDepth 100000 in
set_option maxHeartbeats 1000000 in
theorem rsumw_any (A : Option Addr) (n c : Nat) (ws : List Int) (hw : ∀ x ∈ ws, -9223372036854775808 ≤ x ∧ x ≤ 9223372036854775807) (hn : n ≤ maxLen) (B : Nat) (w : World) (hr : Rd w B A n (ws.map iv)) :
    Calls Try.prog 61 #[.slice A n c] w fun e w' => e = .returned (.int .i64 ((sumUp ws 0).getD 0)) ∧ w = w' := by
  have hlx : ws.length = n := by simpa using hr.1
  unfold maxLen at hn
  have HX := Lib.hid hlx
  clear hlx
  go_enter Try.func61, Try.ntmps61
  go_wp2
  go_loop [4, 5] (fun s i => ∃ (k : Nat) (t : Int), k ≤ n ∧ i = .int .i64 k ∧ s = .int .i64 t ∧ sumUp (ws.take k) 0 = some t) (fun _ i => n - (intOf i).toNat)
  case atStart => exact ⟨0, 0, Nat.zero_le _, rfl, rfl, rfl⟩
  case round =>
    obtain ⟨k, t, hk, rfl, rfl, ht⟩ := hrel
    have hb := sum_bounds ht
    have HT := Lib.hid ht
    clear ht
    by_cases hlt : k < n
    · obtain ⟨a, u, rfl, hab, hu, hc⟩ := hr.at hlt
      have hkx : k < ws.length := by rw [HX.out]; exact hlt
      have hu' : u = iv ws[k] := by
        rw [List.getElem?_map, List.getElem?_eq_getElem hkx] at hu
        exact (Option.some.inj hu).symm
      subst hu'
      unfold iv at hc
      have hx := hw ws[k] (List.getElem_mem hkx)
      have HS := Lib.hid (sumUp_step ws k hkx t HT.out)
      clear hu hw
      generalize ws[k] = x at *
      by_cases h1 : x < 0
      · go_wp2
        go_ret
        rw [HS.out.1 (.inl h1)]
        exact ⟨rfl, rfl⟩
      · by_cases h2 : x > 1152921504606846976 - t
        · go_wp2
          go_ret
          rw [HS.out.1 (.inr h2)]
          exact ⟨rfl, rfl⟩
        · go_wp2
          go_round
          case rel => exact ⟨k + 1, t + x, by omega, by go_num, rfl, HS.out.2 (by omega)⟩
          case measure => simp [intOf]; omega
    · obtain rfl : k = n := by omega
      go_wp2
      go_ret
      have := HT.out
      rw [List.take_of_length_le (by rw [HX.out]; omega)] at this
      rw [this]
      exact ⟨rfl, rfl⟩

set_option maxRecDepth 100000 in
set_option maxHeartbeats 2000000 in
theorem rpick_any (A : Option Addr) (n c : Nat) (ws : List Int) (hw : ∀ x ∈ ws, -9223372036854775808 ≤ x ∧ x ≤ 9223372036854775807) (hn : n ≤ maxLen) (p : Nat) (A' : Option Addr) (m c' : Nat) (hm : m ≤ 140737488351232) (s : ByteArray) (hs : s.size ≤ 140737488351232) (bs : List UInt8) (h : Int) (hh : h = hashI s.data.toList bs) (q : Int) (w : World) (d : RDie w p A' m c' s bs q) (B : Nat) (hr : Rd w B A n (ws.map iv)) (hnp : ∀ a, A = some a → a.block ≠ p) (hB : B ≤ w.heap.size) :
    Calls Try.prog 33 #[.pointer (some ⟨p, 0, none⟩), .slice A n c] w fun e W' => e = numErr (pick h ws q).1 (pick h ws q).2.1 ∧ RDie W' p A' m c' s bs (pick h ws q).2.2 ∧ But w.heap.size p w W' := by
  have hsum := rsumw_any A n c ws hw hn B w hr
  have lt1 := d.lt
  have hlx : ws.length = n := by simpa using hr.1
  have HX := Lib.hid hlx
  have HH := Lib.hid hh
  have hn2 : n ≤ maxLen := hn
  unfold maxLen at hn2
  clear hlx hh
  cases hS : sumUp ws 0 with
  | none =>
    rw [pick_none hS]
    rw [hS] at hsum
    simp only [Option.getD_none] at hsum
    clear hS
    go_enter Try.func33, Try.ntmps33
    go_wp2_with fail
    refine hsum.mono ?_
    rintro e w' ⟨rfl, rfl⟩
    clear hsum
    go_wp2_with fail
    go_ret2
    exact ⟨rfl, d, But.refl _ _ _⟩
  | some t =>
    have hb := sumUp_range _ 0 t (by omega) (by omega) hS
    obtain ⟨hts, h0⟩ := sumUp_sum _ _ _ hS
    rw [hS] at hsum
    simp only [Option.getD_some] at hsum
    by_cases ht : t = 0
    · subst ht
      rw [pick_zero hS]
      clear hS hts
      go_enter Try.func33, Try.ntmps33
      go_wp2_with fail
      refine hsum.mono ?_
      rintro e w' ⟨rfl, rfl⟩
      clear hsum
      go_wp2_with fail
      go_ret2
      exact ⟨rfl, d, But.refl _ _ _⟩
    · have hts' : t = ws.sum := by omega
      have hr3 := rroll_any t (by omega) p A' m c' hm s hs bs h HH.out q w d
      rcases roll_is h t q (by omega) with ⟨k0, k1, k2⟩ | ⟨k0, k1⟩
      · rw [pick_ok hS ht k0]
        rw [k0] at hr3
        generalize roll h t q = R at *
        obtain ⟨x, e, q'⟩ := R
        simp only at k0 k1 k2 hr3 ⊢
        obtain ⟨g1, g2, g3, g4⟩ := idx_lt ws x k1 (by omega)
        have HL := Lib.hid (fun k hk => idx_le ws x h0 k1 (by omega) k hk)
        have HN := Lib.hid h0
        obtain ⟨I, hI⟩ : ∃ I, I = idx ws x := ⟨_, rfl⟩
        rw [← hI] at g1 g3 g4 HL ⊢
        rw [HX.out] at g1
        have hxm : x ≤ 1152921504606846976 := by omega
        have hsm : ws.sum ≤ 1152921504606846976 := by omega
        have HG := Lib.hid g4
        clear k0 hS hts hts' hI g2 g3 h0 k2 g4
        go_enter Try.func33, Try.ntmps33
        go_wp2_with fail
        refine hsum.mono ?_
        rintro e w' ⟨rfl, rfl⟩
        clear hsum
        go_wp2_with fail
        refine hr3.mono ?_
        rintro e W1 ⟨rfl, d1, hB1⟩
        unfold numErr
        clear hr3
        have s1 := hB1.size
        have hr1 := rd_but hr hnp (hB1.mono hB)
        go_wp2_with fail
        go_loop [7, 9] (fun r i => ∃ k : Nat, k ≤ I ∧ i = .int .i64 k ∧ r = .int .i64 (lessBy ws x k)) (fun _ i => I - (intOf i).toNat)
        case atStart => exact ⟨0, by omega, rfl, by simp [lessBy]⟩
        case round =>
          obtain ⟨k, hk, rfl, rfl⟩ := hrel
          have hkn : k < n := by omega
          obtain ⟨a, u, rfl, hab, hu, hc⟩ := hr1.at hkn
          have hkx : k < ws.length := by rw [HX.out]; exact hkn
          have hu' : u = iv ws[k] := by
            rw [List.getElem?_map, List.getElem?_eq_getElem hkx] at hu
            exact (Option.some.inj hu).symm
          subst hu'
          unfold iv at hc
          have e1 := lessBy_succ ws x k hkx
          have r1 := lessBy_range ws x HN.out k
          have r2 := lessBy_range ws x HN.out (k + 1)
          have h4 := HG.out
          have HE := Lib.hid e1
          clear hu
          by_cases hlt : k < I
          · have h5 := HL.out k hlt
            have h6 : ws[k] ≤ lessBy ws x k := by omega
            have h7 : ¬ lessBy ws x k < ws[k] := by omega
            have HZ : wrap64 (lessBy ws x k - ws[k]) = lessBy ws x (k + 1) := by unfold wrap64; omega
            generalize ws[k] = y at *
            clear e1 h4 h5 r1 r2
            have HZ' := Lib.hid HZ
            clear HZ
            go_wp2_with fail
            go_round
            case rel => exact ⟨k + 1, by omega, by go_num, by rw [HZ'.out]⟩
            case measure => simp [intOf]; omega
          · obtain rfl : k = I := by omega
            have h6 : lessBy ws x k < ws[k] := by omega
            have h7 : ¬ ws[k] ≤ lessBy ws x k := by omega
            generalize ws[k] = y at *
            clear e1 h4 r1 r2
            go_wp2_with fail
            go_ret2
            exact ⟨rfl, d1, hB1⟩
      · rw [pick_no hS ht k0]
        rw [k0, k1] at hr3
        generalize roll h t q = R at *
        obtain ⟨x, e, q'⟩ := R
        simp only at k0 k1 hr3 ⊢
        clear k0 k1 hS hts hts'
        go_enter Try.func33, Try.ntmps33
        go_wp2_with fail
        refine hsum.mono ?_
        rintro e w' ⟨rfl, rfl⟩
        clear hsum
        go_wp2_with fail
        refine hr3.mono ?_
        rintro e W1 ⟨rfl, d1, hB1⟩
        unfold numErr
        clear hr3
        go_wp2_with fail
        go_loop [7, 9] (fun r i => r = .int .i64 0 ∧ i = .int .i64 0) (fun _ _ => 0)
        case atStart => exact ⟨rfl, rfl⟩
        case round =>
          obtain ⟨rfl, rfl⟩ := hrel
          go_wp2_with fail
          go_ret2
          exact ⟨rfl, d1, hB1⟩
end Go.Proofs.Ytagjecbgbpjobaa
