/- Lists of values in memory, and encoding them. -/
import Derived.Test.YtigbknhlmifikaaWval
namespace Go.Proofs.Ytigbknhlmifikaa
open Go.RowKit Hb Wm

/-- a slice of values: their cells -/
def RdV (w : World) (B : Nat) (A : Option Addr) (n : Nat) (rs : List RV) : Prop :=
  rs.length = n ∧ (0 < n → ∃ g : Nat, A = some ⟨g, 0, none⟩ ∧ g < B ∧ ∀ (j : Nat) (r : RV), rs[j]? = some r →
    w.cell? ⟨g, j * 5, none⟩ = some (.int .i64 r.k) ∧ w.cell? ⟨g, j * 5 + 1, none⟩ = some (.int .u64 r.u) ∧ w.cell? ⟨g, j * 5 + 2, none⟩ = some (.int .i64 r.n) ∧
    w.cell? ⟨g, j * 5 + 3, none⟩ = some (.slice r.A r.m r.c) ∧ w.cell? ⟨g, j * 5 + 4, none⟩ = some (.slice r.A' r.m' r.c'))
def Vs (w : World) (B : Nat) (A : Option Addr) (n : Nat) (vs : List VV) : Prop :=
  ∃ rs : List RV, RdV w B A n rs ∧ vs.length = n ∧ ∀ (j : Nat) (r : RV) (v : VV), rs[j]? = some r → vs[j]? = some v → RvOk w B r v
theorem RdV.below {w W : World} {B B' n : Nat} {A : Option Addr} {rs : List RV} (h : RdV w B A n rs) (hb : Below B w W) (hB : B ≤ B') : RdV W B' A n rs := by
  refine ⟨h.1, fun hn => ?_⟩
  obtain ⟨g, e, hlt, hc⟩ := h.2 hn
  refine ⟨g, e, by omega, fun j r hr => ?_⟩
  obtain ⟨h0, h1, h2, h3, h4⟩ := hc j r hr
  have k : ∀ i, W.cell? ⟨g, i, none⟩ = w.cell? ⟨g, i, none⟩ := fun i => hb.cell hlt
  exact ⟨(k _).trans h0, (k _).trans h1, (k _).trans h2, (k _).trans h3, (k _).trans h4⟩
theorem Vs.below {w W : World} {B B' n : Nat} {A : Option Addr} {vs : List VV} (h : Vs w B A n vs) (hb : Below B w W) (hB : B ≤ B') : Vs W B' A n vs := by
  obtain ⟨rs, h1, h2, h3⟩ := h
  exact ⟨rs, h1.below hb hB, h2, fun j r v hr hv => (h3 j r v hr hv).below hb hB⟩
theorem Vs.at {w : World} {B n : Nat} {A : Option Addr} {vs : List VV} (h : Vs w B A n vs) {i : Nat} (hi : i < n) :
    ∃ (g : Nat) (r : RV) (v : VV), A = some ⟨g, 0, none⟩ ∧ g < B ∧ vs[i]? = some v ∧ RvOk w B r v ∧
      w.cell? ⟨g, i * 5, none⟩ = some (.int .i64 r.k) ∧ w.cell? ⟨g, i * 5 + 1, none⟩ = some (.int .u64 r.u) ∧ w.cell? ⟨g, i * 5 + 2, none⟩ = some (.int .i64 r.n) ∧
      w.cell? ⟨g, i * 5 + 3, none⟩ = some (.slice r.A r.m r.c) ∧ w.cell? ⟨g, i * 5 + 4, none⟩ = some (.slice r.A' r.m' r.c') := by
  obtain ⟨rs, h1, h2, h3⟩ := h
  obtain ⟨a, rfl, hb, hc⟩ := h1.2 (by omega)
  have hri : i < rs.length := by rw [h1.1]; exact hi
  have hvi : i < vs.length := by omega
  have hr : rs[i]? = some rs[i] := List.getElem?_eq_getElem hri
  have hv : vs[i]? = some vs[i] := List.getElem?_eq_getElem hvi
  exact ⟨a, rs[i], vs[i], rfl, hb, hv, h3 i _ _ hr hv, hc i _ hr⟩
theorem enc_len (v : VV) (h : v.ok) : (enc v).length ≤ 10010 := by
  have h0 := vu_len10 h.u
  have h1 := vu_len10 (zz_lt h.n.1 h.n.2)
  have h2 := vu_len10 (n := v.b.length) (by have := h.b; omega)
  have h3 := vu_len10 (n := v.l.length) (by have := h.l; omega)
  have h4 := encI_len v.l h.ll
  have h5 := h.b
  have h6 := h.l
  unfold enc
  repeat' split
  all_goals simp <;> omega
theorem encs_snoc (l : List VV) (v : VV) : encs (l ++ [v]) = encs l ++ enc v := by simp [encs]
theorem encs_len (l : List VV) (h : ∀ v ∈ l, v.ok) : (encs l).length ≤ 10010 * l.length := by
  induction l with
  | nil => simp [encs]
  | cons v l ih =>
    have h1 := ih fun x hx => h x (by simp [hx])
    have h2 := enc_len v (h v (by simp))
    simp only [encs, List.flatMap_cons, List.length_append, List.length_cons] at h1 ⊢
    omega

set_option maxRecDepth 100000 in
set_option maxHeartbeats 2000000 in
theorem encode_any (A : Option Addr) (n c : Nat) (vs : List VV) (hok : ∀ v ∈ vs, v.ok) (hn : n ≤ 40) (w : World) (h : Vs w w.heap.size A n vs) :
    Calls Try.prog 26 #[.slice A n c] w fun e W => ∃ A' c', e = .returned (.slice A' (encs vs).length c') ∧ W.ownsRow w.heap.size 5 1 (.slice A' (encs vs).length c') (encs vs).length ((encs vs).map bv) ∧ Below w.heap.size w W := by
  have hvl : vs.length = n := by obtain ⟨_, _, h2, _⟩ := h; exact h2
  have HV := Lib.hid hvl
  have HO := Lib.hid hok
  clear hvl hok
  go_enter Try.func26, Try.ntmps26
  have B0 := (Below.refl w.heap.size w).alloc (Nat.le_refl _) (.cells #[.slice none 0 0] 32)
  have W0 := Wr.new w
  go_wp2_with fail
  go_loopw [4] (fun ix wr => ∃ i : Nat, i ≤ n ∧ ix = .int .i64 i ∧ Wr wr w.heap.size (encs (vs.take i)) ∧ Below w.heap.size w wr) (fun ix _ => n - (intOf ix).toNat)
  case atStart => exact ⟨0, Nat.zero_le _, rfl, W0, B0⟩
  case round =>
    obtain ⟨i, hi, rfl, hW, hB⟩ := hrel
    have hs := hB.size
    by_cases hin : i < n
    · obtain ⟨a, r, v, rfl, hab, hvi, hrv, c0, c1, c2, c3, c4⟩ := (h.below hB (Nat.le_refl _)).at hin
      have hil : i < vs.length := by rw [HV.out]; exact hin
      have hvo : v.ok := HO.out v (List.mem_of_getElem? hvi)
      have hev := enc_len v hvo
      have het := encs_len (vs.take i) fun x hx => HO.out x (List.mem_of_mem_take hx)
      have hlt2 : (vs.take i).length ≤ i := List.length_take_le _ _
      have hsn : encs (vs.take (i + 1)) = encs (vs.take i) ++ enc v := by
        have e : vs[i] = v := by rw [List.getElem?_eq_getElem hil] at hvi; exact Option.some.inj hvi
        rw [List.take_succ_eq_append_getElem hil, encs_snoc, e]
      have HS := Lib.hid hsn
      clear hsn hvi
      go_wp2_with fail
      refine (write_any w.heap.size r v hvo _ (by omega) _ hW hrv).mono ?_
      rintro e W ⟨rfl, hW2, hB2⟩
      go_wp2_with fail
      go_roundw
      case rel => exact ⟨i + 1, by omega, by go_num, by rw [HS.out]; exact hW2, hB.trans hB2⟩
      case measure => simp [intOf]; omega
    · obtain rfl : i = n := by omega
      have e : vs.take i = vs := List.take_of_length_le (by rw [HV.out]; exact Nat.le_refl _)
      rw [e] at hW
      clear e
      have hel := encs_len vs HO.out
      rw [HV.out] at hel
      go_wp2_with fail
      refine (w_done w.heap.size _ (by omega) _ hW).mono ?_
      rintro e W ⟨A', c', rfl, ho, -, hB2⟩
      go_wp2_with fail
      go_ret
      exact ⟨A', c', rfl, own_base ho hs, hB.trans (hB2.mono hs)⟩
end Go.Proofs.Ytigbknhlmifikaa
