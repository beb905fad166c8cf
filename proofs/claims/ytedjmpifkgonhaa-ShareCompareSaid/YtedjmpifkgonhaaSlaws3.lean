/- The law ShareCompare, walked. -/
import Derived.Test.YtedjmpifkgonhaaSlaws2
import Derived.Deep.RegionHeld3
namespace Go.Proofs.Ytedjmpifkgonhaa
open Go.RowKit Hb Sm Sx
open Go.Sort (grow)

theorem alloc_cell {w : World} {a : Addr} {v : Value} (h : w.cell? a = some v) (o : Obj) : (w.alloc o).cell? a = some v :=
  (((Below.refl w.heap.size w).alloc (Nat.le_refl _) o).cell (cell_lt h)).trans h
theorem alloc_cell_d {w : World} {a : Addr} {v : Value} (h : w.drew.cell? a = some v) (o : Obj) : (w.alloc o).drew.cell? a = some v := alloc_cell (w := w) h o
/-- entry i of a table of rows of four numbers -/
def Row4 (w : World) (gA i : Nat) : Prop := ∃ (b c : Nat) (v0 v1 v2 v3 : Int), w.cell? ⟨gA, i, none⟩ = some (.slice (some ⟨b, 0, none⟩) 4 c) ∧ w.cell? ⟨b, 0, none⟩ = some (.int .i64 v0) ∧ w.cell? ⟨b, 1, none⟩ = some (.int .i64 v1) ∧ w.cell? ⟨b, 2, none⟩ = some (.int .i64 v2) ∧ w.cell? ⟨b, 3, none⟩ = some (.int .i64 v3)
theorem Row4.grown {w : World} {gA i : Nat} (h : Row4 w gA i) (n : Nat) (os : Array Obj) : Row4 (grow (w.drewN n) os) gA i := by
  obtain ⟨b, c, v0, v1, v2, v3, h1, h2, h3, h4, h5⟩ := h
  exact ⟨b, c, v0, v1, v2, v3, cell_grown (cell_lt h1) h1 n os, cell_grown (cell_lt h2) h2 n os, cell_grown (cell_lt h3) h3 n os, cell_grown (cell_lt h4) h4 n os, cell_grown (cell_lt h5) h5 n os⟩
theorem Row4.at {w : World} {gA : Nat} (h : ∀ i, i < 5 → Row4 w gA i) (i : Nat) (hi : i < 5) : Row4 w gA i := h i hi
/-- four numbers at the head of a block -/
def Four (w : World) (b : Nat) : Prop := ∃ v0 v1 v2 v3 : Int, w.cell? ⟨b, 0, none⟩ = some (.int .i64 v0) ∧ w.cell? ⟨b, 1, none⟩ = some (.int .i64 v1) ∧ w.cell? ⟨b, 2, none⟩ = some (.int .i64 v2) ∧ w.cell? ⟨b, 3, none⟩ = some (.int .i64 v3)
theorem Four.new (w : World) (a b c d : Int) : Four (w.alloc (.cells #[.int .i64 a, .int .i64 b, .int .i64 c, .int .i64 d] 3)) w.heap.size := ⟨a, b, c, d, by simp, by simp, by simp, by simp⟩
theorem Four.alloc {w : World} {b : Nat} (h : Four w b) (o : Obj) : Four (w.alloc o) b := by
  obtain ⟨v0, v1, v2, v3, h2, h3, h4, h5⟩ := h
  exact ⟨v0, v1, v2, v3, alloc_cell h2 o, alloc_cell h3 o, alloc_cell h4 o, alloc_cell h5 o⟩
theorem Four.below {w w' : World} {b B : Nat} (h : Four w b) (hB : Below B w w') (hb : b < B) : Four w' b := by
  obtain ⟨v0, v1, v2, v3, h2, h3, h4, h5⟩ := h
  exact ⟨v0, v1, v2, v3, (hB.cell hb).trans h2, (hB.cell hb).trans h3, (hB.cell hb).trans h4, (hB.cell hb).trans h5⟩
theorem Four.own {w : World} {base g c : Nat} {xs : List Nat} (h : w.ownsRow base 3 1 (.slice (some ⟨g, 0, none⟩) 4 c) 4 (xs.map nv)) : Four w g :=
  ⟨_, _, _, _, own_cell h 0 (by omega), own_cell h 1 (by omega), own_cell h 2 (by omega), own_cell h 3 (by omega)⟩
theorem Row4.of {w : World} {gA i b c : Nat} (h1 : w.cell? ⟨gA, i, none⟩ = some (.slice (some ⟨b, 0, none⟩) 4 c)) (h : Four w b) : Row4 w gA i := by
  obtain ⟨v0, v1, v2, v3, h2, h3, h4, h5⟩ := h
  exact ⟨b, c, v0, v1, v2, v3, h1, h2, h3, h4, h5⟩
/-- the table of five -/
theorem table (w : World) (b0 b1 b2 b3 b4 c0 c1 c2 c3 c4 : Nat) (h0 : Four w b0) (h1 : Four w b1) (h2 : Four w b2) (h3 : Four w b3) (h4 : Four w b4) :
    ∀ i, i < 5 → Row4 (w.alloc (.cells #[.slice (some ⟨b0, 0, none⟩) 4 c0, .slice (some ⟨b1, 0, none⟩) 4 c1, .slice (some ⟨b2, 0, none⟩) 4 c2, .slice (some ⟨b3, 0, none⟩) 4 c3, .slice (some ⟨b4, 0, none⟩) 4 c4] 23)) w.heap.size i := by
  intro i hi
  match i, hi with
  | 0, _ => exact Row4.of (c := c0) (by simp) (h0.alloc _)
  | 1, _ => exact Row4.of (c := c1) (by simp) (h1.alloc _)
  | 2, _ => exact Row4.of (c := c2) (by simp) (h2.alloc _)
  | 3, _ => exact Row4.of (c := c3) (by simp) (h3.alloc _)
  | 4, _ => exact Row4.of (c := c4) (by simp) (h4.alloc _)

/-- the table behind the two rows that are written out, in either order -/
theorem table_two (w : World) (p0 p1 p2 p3 q0 q1 q2 q3 : Int) (b0 b1 b2 b3 b4 c0 c1 c2 : Nat) (h0 : Four w b0) (h1 : Four w b1) (h2 : Four w b2) (h3 : (b3 = w.heap.size ∧ b4 = w.heap.size + 1) ∨ (b3 = w.heap.size + 1 ∧ b4 = w.heap.size)) :
    (∀ i, i < 5 → Row4 (((w.alloc (.cells #[.int .i64 p0, .int .i64 p1, .int .i64 p2, .int .i64 p3] 3)).alloc (.cells #[.int .i64 q0, .int .i64 q1, .int .i64 q2, .int .i64 q3] 3)).alloc (.cells #[.slice (some ⟨b0, 0, none⟩) 4 c0, .slice (some ⟨b1, 0, none⟩) 4 c1, .slice (some ⟨b2, 0, none⟩) 4 c2, .slice (some ⟨b3, 0, none⟩) 4 4, .slice (some ⟨b4, 0, none⟩) 4 4] 23)).drew (w.heap.size + 1 + 1) i) ∧
    Below w.heap.size w (((w.alloc (.cells #[.int .i64 p0, .int .i64 p1, .int .i64 p2, .int .i64 p3] 3)).alloc (.cells #[.int .i64 q0, .int .i64 q1, .int .i64 q2, .int .i64 q3] 3)).alloc (.cells #[.slice (some ⟨b0, 0, none⟩) 4 c0, .slice (some ⟨b1, 0, none⟩) 4 c1, .slice (some ⟨b2, 0, none⟩) 4 c2, .slice (some ⟨b3, 0, none⟩) 4 4, .slice (some ⟨b4, 0, none⟩) 4 4] 23)).drew := by
  have n1 := Four.new w p0 p1 p2 p3
  have s1 : (w.alloc (.cells #[.int .i64 p0, .int .i64 p1, .int .i64 p2, .int .i64 p3] 3)).heap.size = w.heap.size + 1 := by simp
  have n2 := Four.new (w.alloc (.cells #[.int .i64 p0, .int .i64 p1, .int .i64 p2, .int .i64 p3] 3)) q0 q1 q2 q3
  rw [s1] at n2
  have n1' := n1.alloc (.cells #[.int .i64 q0, .int .i64 q1, .int .i64 q2, .int .i64 q3] 3)
  have s2 : ((w.alloc (.cells #[.int .i64 p0, .int .i64 p1, .int .i64 p2, .int .i64 p3] 3)).alloc (.cells #[.int .i64 q0, .int .i64 q1, .int .i64 q2, .int .i64 q3] 3)).heap.size = w.heap.size + 1 + 1 := by simp
  have k3 : Four ((w.alloc (.cells #[.int .i64 p0, .int .i64 p1, .int .i64 p2, .int .i64 p3] 3)).alloc (.cells #[.int .i64 q0, .int .i64 q1, .int .i64 q2, .int .i64 q3] 3)) b3 ∧ Four ((w.alloc (.cells #[.int .i64 p0, .int .i64 p1, .int .i64 p2, .int .i64 p3] 3)).alloc (.cells #[.int .i64 q0, .int .i64 q1, .int .i64 q2, .int .i64 q3] 3)) b4 := by
    rcases h3 with ⟨rfl, rfl⟩ | ⟨rfl, rfl⟩
    · exact ⟨n1', n2⟩
    · exact ⟨n2, n1'⟩
  have h := table _ b0 b1 b2 b3 b4 c0 c1 c2 4 4 ((h0.alloc _).alloc _) ((h1.alloc _).alloc _) ((h2.alloc _).alloc _) k3.1 k3.2
  rw [s2] at h
  refine ⟨fun i hi => h i hi, ?_⟩
  have hs1 : w.heap.size ≤ (w.alloc (.cells #[.int .i64 p0, .int .i64 p1, .int .i64 p2, .int .i64 p3] 3)).heap.size := by omega
  exact ((((Below.refl w.heap.size w).alloc (Nat.le_refl _) _).alloc hs1 _).alloc (by omega) _).trans (Quiet.below ⟨1, rfl⟩ _)

set_option maxRecDepth 100000 in
set_option maxHeartbeats 8000000 in
theorem ShareCompare_walk (w : World) (a0 : Int) (w0 : (Lit.int .i64 a0).wf = true) (a1 : Int) (w1 : (Lit.int .i64 a1).wf = true) (a2 : Int) (w2 : (Lit.int .i64 a2).wf = true) (a3 : Int) (w3 : (Lit.int .i64 a3).wf = true) :
    Calls Try.prog 9 #[.int .i64 a0, .int .i64 a1, .int .i64 a2, .int .i64 a3] w fun e W' => e = .returned (.bool true) ∧ Below w.heap.size w W' := by
  obtain ⟨i0, hi, hz0, hz1, hz2⟩ := info_parts infoI
  have hmx : Try.prog.follows .mixedOrders = true := by kernel_rfl
  have B0 := (Below.refl w.heap.size w).alloc (Nat.le_refl _) (.cells #[.int .i64 a0, .int .i64 a1, .int .i64 a2, .int .i64 a3] 3)
  have hr := boxed_rds w [iv a0, iv a1, iv a2, iv a3] 3
  have hF := Four.new w a0 a1 a2 a3
  have hs1 : (w.alloc (.cells #[.int .i64 a0, .int .i64 a1, .int .i64 a2, .int .i64 a3] 3)).heap.size = w.heap.size + 1 := by simp
  have hz : ∀ y ∈ [a0, a1, a2, a3], -9223372036854775808 ≤ y ∧ y ≤ 9223372036854775807 := by
    intro y hy
    simp only [List.mem_cons, List.not_mem_nil, or_false] at hy
    rcases hy with rfl | rfl | rfl | rfl <;> exact bounds_i64 (by assumption)
  have HZ := Lib.hid hz
  clear hz
  go_enter Try.func9, Try.ntmps9
  go_wp2_with fail
  obtain ⟨W1, hW1⟩ : ∃ W1, W1 = w.alloc (.cells #[.int .i64 a0, .int .i64 a1, .int .i64 a2, .int .i64 a3] 3) := ⟨_, rfl⟩
  have hr' : Rd W1 W1.heap.size (some ⟨w.heap.size, 0, none⟩) 4 ([a0, a1, a2, a3].map iv) := by rw [hW1]; exact hr.mono (by omega)
  rw [← hW1] at B0 hF hs1
  simp only [← hW1]
  clear hW1 hr
  go_loopw [10, 11, 12, 13] (fun nv' dv ix _ wr => ∃ (k : Nat) (ns ds : List Nat) (A1 : Option Addr) (c1 : Nat) (A2 : Option Addr) (c2 : Nat), k ≤ 4 ∧ nv' = .slice A1 k c1 ∧ dv = .slice A2 k c2 ∧ ix = .int .i64 k ∧ Hid (∀ x ∈ ns, x ≤ 1152921504606846976) ∧ wr.ownsRow W1.heap.size 3 1 (.slice A1 k c1) k (ns.map nv) ∧ wr.ownsRow W1.heap.size 3 1 (.slice A2 k c2) k (ds.map nv) ∧ Apart (.slice A1 k c1) (.slice A2 k c2) ∧ Below W1.heap.size W1 wr) (fun _ _ ix _ _ => 4 - (intOf ix).toNat)
  case atStart => exact ⟨0, [], [], none, 0, none, 0, by omega, rfl, rfl, rfl, fun x hx => by simp at hx, World.ownsRow_nil _ _ _ _, World.ownsRow_nil _ _ _ _, Apart.none, Below.refl _ _⟩
  case round =>
    obtain ⟨k, ns, ds, A1, c1, A2, c2, hk4, rfl, rfl, rfl, HN, ho1, ho2, hap, hB⟩ := hrel
    by_cases hlt : k < 4
    · have hs := hB.size
      obtain ⟨a, e, -, hx⟩ := Rd.int (hr'.below hB) k hlt
      injection e with e
      subst e
      rw [add_plain, Nat.zero_add] at hx
      obtain ⟨x, hxd⟩ : ∃ x, x = [a0, a1, a2, a3].getD k 0 := ⟨_, rfl⟩
      rw [← hxd] at hx
      have hxb : -9223372036854775808 ≤ x ∧ x ≤ 9223372036854775807 := by
        refine HZ.out x ?_
        rw [hxd, List.getD_eq_getElem?_getD, List.getElem?_eq_getElem (by simpa using hlt)]
        exact List.getElem_mem _
      have HB := Lib.hid hB
      have HAP := Lib.hid hap
      have O1 := Lib.hid ho1
      have O2 := Lib.hid ho2
      have b1 : (k : Int) < 4 := by omega
      clear ho1 ho2 hap hB hxd
      go_wp2_with fail
      refine (around3 x 1152921504606846977 _ rfl hxb (by omega) wr).mono ?_
      rintro e W ⟨⟨u, rfl, hu, -⟩, rfl⟩
      obtain ⟨v, hv⟩ : ∃ v, v = u % 7 := ⟨_, rfl⟩
      have e2 : (u : Int) % 7 = (v : Int) := by omega
      have HN2 := Lib.hid (show ∀ x ∈ ns ++ [u], x ≤ 1152921504606846976 from fun x hx => by
        rcases List.mem_append.1 hx with h | h
        · exact HN.out x h
        · rw [List.mem_singleton.1 h]; omega)
      clear hx hxb hv
      go_wp2_with (first | (at_builtin; refine wpList_append_rd _ rfl _ _ 23 rfl W1.heap.size 3 i0 (.int .i64 0) 8 Try.underlying23 hi hz0 hz1 hz2 rfl (.slice A1 k c1) k _ rfl (O1.out.alloc _) (wr.heap.size + 1) (some ⟨wr.heap.size, 0, none⟩) 1 1 [nv u] rfl (boxed_rd wr (nv u) 3) (fun u hu => by rw [List.mem_singleton.1 hu]; rfl) (by unfold maxLen; omega) (by omega) (by simp; omega) ?_; intro A3 c3 W2 ho3 hg3 hb3; have ho2 := O2.out.alloc (.cells #[nv u] 3); have ho4 := ho2.kept hg3 (HAP.out.sym.ne); have hB3 := own_grown (HB.out.alloc hs (.cells #[nv u] 3)) (O1.out.alloc _) hg3 (by simp; omega); have hs3 := hB3.size; have hap3 := HAP.out.grow ho2 hb3 (by simp); have P3 := Lib.hid ho3; have P4 := Lib.hid ho4; have PB := Lib.hid hB3; have PA := Lib.hid hap3; clear ho2 ho3 ho4 hB3 hap3 hg3 hb3) | (at_builtin; refine wpList_append_rd _ rfl _ _ 23 rfl W1.heap.size 3 i0 (.int .i64 0) 8 Try.underlying23 hi hz0 hz1 hz2 rfl (.slice A2 k c2) k _ rfl (P4.out.alloc _) (W2.heap.size + 1) (some ⟨W2.heap.size, 0, none⟩) 1 1 [nv v] rfl (boxed_rd W2 (nv v) 3) (fun u hu => by rw [List.mem_singleton.1 hu]; rfl) (by unfold maxLen; omega) (by omega) (by simp; omega) ?_; intro A4 c4 W5 ho5 hg5 hb5; have ho6 := (P3.out.alloc (.cells #[nv v] 3)).kept hg5 (PA.out.ne); have hap5 := (PA.out.sym.grow (P3.out.alloc (.cells #[nv v] 3)) hb5 (by simp)).sym; have hB5 := own_grown (PB.out.alloc hs3 (.cells #[nv v] 3)) (P4.out.alloc _) hg5 (by simp; omega); have P5 := Lib.hid ho5; have P6 := Lib.hid ho6; have PB5 := Lib.hid hB5; have PA5 := Lib.hid hap5; clear ho5 ho6 hB5 hap5 hg5 hb5))
      go_roundw
      case rel => exact ⟨k + 1, ns ++ [u], ds ++ [v], A3, c3, A4, c4, by omega, rfl, rfl, by go_num, HN2, own_cast P6.out rfl (by rw [List.map_append]; rfl), own_cast P5.out rfl (by rw [List.map_append]; rfl), PA5.out, PB5.out⟩
      case measure => simp [intOf]; omega
    · obtain rfl : k = 4 := by omega
      simp only [show ((4 : Nat) : Int) = 4 from rfl]
      obtain ⟨g, rfl, hg, hgl⟩ := own_some ho1 (by omega)
      obtain ⟨h, rfl, hh, hhl⟩ := own_some ho2 (by omega)
      have x0 := own_cell ho1 0 (by omega)
      have x1 := own_cell ho1 1 (by omega)
      have F1 := Four.own ho1
      have F2 := Four.own ho2
      have F0 := hF.below hB (by omega)
      have hnl : ns.length = 4 := by simpa using ho1.1
      obtain ⟨m0, hm0⟩ : ∃ m, m = ns.getD 0 0 := ⟨_, rfl⟩
      obtain ⟨m1, hm1⟩ : ∃ m, m = ns.getD 1 0 := ⟨_, rfl⟩
      have hb0 : m0 ≤ 1152921504606846976 := HN.out m0 (by rw [hm0, List.getD_eq_getElem?_getD, List.getElem?_eq_getElem (by omega)]; exact List.getElem_mem _)
      have hb1 : m1 ≤ 1152921504606846976 := HN.out m1 (by rw [hm1, List.getD_eq_getElem?_getD, List.getElem?_eq_getElem (by omega)]; exact List.getElem_mem _)
      rw [← hm0] at x0
      rw [← hm1] at x1
      have FF := Lib.hid (And.intro F0 (And.intro F1 F2))
      have HB := Lib.hid (B0.trans (hB.mono (by omega)))
      have hs := hB.size
      clear ho1 ho2 hap hB F0 F1 F2 hm0 hm1 hnl HN hr' hF B0
      go_upto_region 9 with (fail)
      go_cut [14] from 43 to 80 (fun av wx => ∃ gA : Nat, av = .slice (some ⟨gA, 0, none⟩) 5 5 ∧ Hid (∀ i, i < 5 → Row4 wx gA i) ∧ Below w.heap.size w wx)
      case first =>
        go_region_held3 (fun w' => w'.cell? ⟨g, 0, none⟩ = some (.int .i64 (m0 : Int)) ∧ w'.cell? ⟨g, 1, none⟩ = some (.int .i64 (m1 : Int))) (first | exact ⟨x0, x1⟩ | exact ⟨alloc_cell_d x0 _, alloc_cell_d x1 _⟩ | exact ⟨alloc_cell_d (alloc_cell_d x0 _) _, alloc_cell_d (alloc_cell_d x1 _) _⟩ | exact ⟨alloc_cell_d (alloc_cell_d (alloc_cell_d x0 _) _) _, alloc_cell_d (alloc_cell_d (alloc_cell_d x1 _) _) _⟩) (first | fail)
        all_goals
          have T1 := table_two wr m0 m1 (IntKind.i64.wrap (m0 / 2)) (IntKind.i64.wrap (m1 / 2)) (IntKind.i64.wrap (m0 / 3)) (IntKind.i64.wrap (m1 / 3)) (IntKind.i64.wrap (m0 / 3)) (max 0 (IntKind.i64.wrap (IntKind.i64.wrap (m1 / 3) - 1))) w.heap.size g h wr.heap.size (wr.heap.size + 1) 4 c1 c2 FF.out.1 FF.out.2.1 FF.out.2.2 (.inl ⟨rfl, rfl⟩)
          have T2 := table_two wr (IntKind.i64.wrap (m0 / 3)) (IntKind.i64.wrap (m1 / 3)) (IntKind.i64.wrap (m0 / 3)) (max 0 (IntKind.i64.wrap (IntKind.i64.wrap (m1 / 3) - 1))) m0 m1 (IntKind.i64.wrap (m0 / 2)) (IntKind.i64.wrap (m1 / 2)) w.heap.size g h (wr.heap.size + 1) wr.heap.size 4 c1 c2 FF.out.1 FF.out.2.1 FF.out.2.2 (.inr ⟨rfl, rfl⟩)
          have TT1 := Lib.hid (And.intro T1.1 (HB.out.trans (T1.2.mono (by omega))))
          have TT2 := Lib.hid (And.intro T2.1 (HB.out.trans (T2.2.mono (by omega))))
          clear T1 T2
          go_wp2_with fail
          go_meet
        all_goals first | exact ⟨_, rfl, TT1.out.1, TT1.out.2⟩ | exact ⟨_, rfl, TT2.out.1, TT2.out.2⟩
      case rest =>
        obtain ⟨gA, rfl, HT, hB⟩ := hcut
        clear x0 x1 hb0 hb1 hgl hhl FF HB hs
        have HB := Lib.hid hB
        clear hB
        go_wp2_with fail
        go_loopw [15, 16, 17, 18, 19] (fun ix _ _ _ _ wx => ∃ k : Nat, k ≤ 5 ∧ ix = .int .i64 k ∧ Hid (∀ i, i < 5 → Row4 wx gA i) ∧ Hid (Below w.heap.size w wx)) (fun ix _ _ _ _ _ => 5 - (intOf ix).toNat)
        case atStart => exact ⟨0, by omega, rfl, HT, HB⟩
        case round =>
          clear HT HB
          obtain ⟨k, hk5, rfl, HT, HB⟩ := hrel
          obtain ⟨wo, hwo⟩ : ∃ wo : World, wo = wr := ⟨_, rfl⟩
          rw [← hwo] at HT HB ⊢
          clear hwo
          clear wr
          have hs := HB.out.size
          by_cases hlt : k < 5
          · obtain ⟨b, c, v0, v1, v2, v3, e0, e1, e2, e3, e4⟩ := HT.out k hlt
            have e0g : ∀ (m : Nat) (os : Array Obj), (grow (wo.drewN m) os).cell? ⟨gA, k, none⟩ = some (.slice (some ⟨b, 0, none⟩) 4 c) := fun m os => cell_grown (cell_lt e0) e0 m os
            have e1g : ∀ (m : Nat) (os : Array Obj), (grow (wo.drewN m) os).cell? ⟨b, 0, none⟩ = some (.int .i64 v0) := fun m os => cell_grown (cell_lt e1) e1 m os
            have e2g : ∀ (m : Nat) (os : Array Obj), (grow (wo.drewN m) os).cell? ⟨b, 1, none⟩ = some (.int .i64 v1) := fun m os => cell_grown (cell_lt e2) e2 m os
            have e3g : ∀ (m : Nat) (os : Array Obj), (grow (wo.drewN m) os).cell? ⟨b, 2, none⟩ = some (.int .i64 v2) := fun m os => cell_grown (cell_lt e3) e3 m os
            have e4g : ∀ (m : Nat) (os : Array Obj), (grow (wo.drewN m) os).cell? ⟨b, 3, none⟩ = some (.int .i64 v3) := fun m os => cell_grown (cell_lt e4) e4 m os
            have b1 : (k : Int) < 5 := by omega
            obtain ⟨r, hr⟩ : ∃ r, r = compS v0 v1 v2 v3 := ⟨_, rfl⟩
            have cS : ∀ W : World, Calls Try.prog 24 #[.int .i64 v0, .int .i64 v1, .int .i64 v2, .int .i64 v3] W fun e w' => e = .returned (.tuple #[.int .i64 r.1, .int .i64 r.2]) ∧ ∃ q os, w' = grow (W.drewN q) os := fun W => by
              rw [hr]
              exact (scompare v0 v1 v2 v3 W).mono fun _ _ ⟨he, os, hw⟩ => ⟨he, 0, os, by rw [hw]; rfl⟩
            have cR : ∀ W : World, Calls Try.prog 25 #[.int .i64 v0, .int .i64 v1, .int .i64 v2, .int .i64 v3] W fun e w' => e = .returned (.tuple #[.int .i64 r.1, .int .i64 r.2]) ∧ ∃ q os, w' = grow (W.drewN q) os := fun W => by
              rw [hr]
              exact (rcompare v0 v1 v2 v3 W).mono fun _ _ ⟨he, q, hw⟩ => ⟨he, q, #[], by rw [hw, Go.Sort.grow_empty]⟩
            have CS := Lib.hid cS
            have CR := Lib.hid cR
            obtain ⟨r1, r2⟩ := r
            clear hr e0 e1 e2 e3 e4 cS cR
            go_wp2_with fail
            go_quiet_grown (first | (go_at_call 24; refine Calls.grown_of (CS.out _)))
            obtain ⟨W6, hW6⟩ : ∃ W', W' = grow (wo.drewN nq) osq := ⟨_, rfl⟩
            have e0 := e0g nq osq
            have e1 := e1g nq osq
            have e2 := e2g nq osq
            have e3 := e3g nq osq
            have e4 := e4g nq osq
            have HT6 := Lib.hid (show ∀ i, i < 5 → Row4 W6 gA i from fun i hi => by rw [hW6]; exact (HT.out i hi).grown _ _)
            have HB6 := Lib.hid (show Below w.heap.size w W6 from by rw [hW6]; exact HB.out.trans (grow_below wo nq osq _ hs))
            rw [← hW6] at e0 e1 e2 e3 e4 ⊢
            clear hW6 e0g e1g e2g e3g e4g HT HB
            have hs6 := HB6.out.size
            have e0g : ∀ (m : Nat) (os : Array Obj), (grow (W6.drewN m) os).cell? ⟨gA, k, none⟩ = some (.slice (some ⟨b, 0, none⟩) 4 c) := fun m os => cell_grown (cell_lt e0) e0 m os
            have e1g : ∀ (m : Nat) (os : Array Obj), (grow (W6.drewN m) os).cell? ⟨b, 0, none⟩ = some (.int .i64 v0) := fun m os => cell_grown (cell_lt e1) e1 m os
            have e2g : ∀ (m : Nat) (os : Array Obj), (grow (W6.drewN m) os).cell? ⟨b, 1, none⟩ = some (.int .i64 v1) := fun m os => cell_grown (cell_lt e2) e2 m os
            have e3g : ∀ (m : Nat) (os : Array Obj), (grow (W6.drewN m) os).cell? ⟨b, 2, none⟩ = some (.int .i64 v2) := fun m os => cell_grown (cell_lt e3) e3 m os
            have e4g : ∀ (m : Nat) (os : Array Obj), (grow (W6.drewN m) os).cell? ⟨b, 3, none⟩ = some (.int .i64 v3) := fun m os => cell_grown (cell_lt e4) e4 m os
            clear e0 e1 e2 e3 e4
            clear nq osq
            go_wp2_with fail
            go_quiet_grown (first | (go_at_call 25; refine Calls.grown_of (CR.out _)))
            have HT7 := Lib.hid (show ∀ i, i < 5 → Row4 (grow (W6.drewN nq) osq) gA i from fun i hi => (HT6.out i hi).grown _ _)
            have HB7 := Lib.hid (HB6.out.trans (grow_below W6 nq osq _ hs6))
            clear e0g e1g e2g e3g e4g HT6 HB6
            have n1 : (r1 != r1) = false := by simp
            have n2 : (r2 != r2) = false := by simp
            go_wp2_with fail
            go_roundw
            case rel => exact ⟨k + 1, by omega, by go_num, HT7, HB7⟩
            case measure => simp [intOf]; omega
          · have hke : k = 5 := by omega
            subst hke
            go_wp2_with fail
            refine (lives_from w wo HB.out).mono ?_
            rintro e W6 ⟨rfl, B6⟩
            go_wp2_with fail
            go_ret
            exact ⟨rfl, B6⟩
end Go.Proofs.Ytedjmpifkgonhaa
