/- The decimal text of an integer, read again. No program is named here. -/
import Derived.Test.YtmpdoikdadjneaaDoorCH
import Derived.Laws.Concat
import Derived.Laws.DeepStrings4
import Derived.Test.YtmpdoikdadjneaaDoorCI
namespace Go.Proofs.YtmpdoikdadjneaaDoor
open Go.RowKit Go.Shelf Hb Vm Ds Vr

def dB (d : Nat) : UInt8 := UInt8.ofNat (48 + d)
def decL (n : Nat) : List UInt8 := ((digs 10 n).map dB).reverse
def txtL (z : Int) : List UInt8 := if z = 0 then [48] else (if z < 0 then [45] else []) ++ decL z.natAbs
theorem dB_nat {d : Nat} (h : d < 10) : (dB d).toNat = 48 + d := by
  unfold dB
  rw [UInt8.toNat_ofNat']
  omega
theorem decS_list (z : Int) : (decS z).data.toList = txtL z := by
  unfold decS strOfNums decI txtL decL
  have h : ∀ l : List Nat, (l.map (fun d : Nat => 48 + (d : Int))).reverse.map (fun n : Int => UInt8.ofNat n.toNat) = (l.map dB).reverse := by
    intro l
    rw [List.map_reverse, List.map_map]
    congr 1
  rw [List.toList_toArray]
  by_cases h0 : z = 0
  · rw [if_pos h0, if_pos h0]; rfl
  · rw [if_neg h0, if_neg h0]
    by_cases h1 : z < 0
    · rw [if_pos h1, if_pos h1, List.map_append, h]; rfl
    · rw [if_neg h1, if_neg h1, List.map_append, h]; rfl
theorem decL_zero : decL 0 = [] := rfl
theorem decL_step (q r : Nat) (hr : r < 10) (hp : 0 < 10 * q + r) : decL (10 * q + r) = decL q ++ [dB r] := by
  unfold decL
  rw [digs_pos 10 (by decide) _ hp, List.map_cons, List.reverse_cons, Nat.mul_add_mod, Nat.mod_eq_of_lt hr, Nat.mul_add_div (by decide), Nat.div_eq_of_lt hr, Nat.add_zero]
theorem decL_step' (n : Nat) (hp : 0 < n) : decL n = decL (n / 10) ++ [dB (n % 10)] := by
  have h := decL_step (n / 10) (n % 10) (Nat.mod_lt _ (by decide)) (by rw [Nat.div_add_mod]; exact hp)
  rwa [Nat.div_add_mod] at h
theorem decL_dig (n : Nat) : ∀ c ∈ decL n, IsDig c := by
  intro c hc
  unfold decL at hc
  rw [List.mem_reverse, List.mem_map] at hc
  obtain ⟨d, hd, rfl⟩ := hc
  have := dig_digs 10 (by decide) n d hd
  unfold IsDig
  rw [dB_nat this]
  omega
theorem dval_decL (n : Nat) : dval (decL n) = n := by
  induction n using Nat.strongRecOn with
  | ind n ih =>
    by_cases h : n = 0
    · subst h; rfl
    · have hm := Nat.mod_lt n (show 0 < 10 by decide)
      rw [decL_step' n (by omega), dval_app, ih _ (Nat.div_lt_self (by omega) (by decide))]
      have : dval [dB (n % 10)] = n % 10 := by
        show 0 * 10 + ((dB (n % 10)).toNat - 48) = _
        rw [dB_nat hm]; omega
      rw [this]
      simp only [List.length_cons, List.length_nil]
      omega
theorem decL_len (n : Nat) : (decL n).length = (digs 10 n).length := by unfold decL; simp
theorem decL_nil {n : Nat} (h : 0 < n) : decL n ≠ [] := fun e => by
  have h1 := decL_len n
  rw [e] at h1
  have := (digs_nil (b := 10) (by decide) (n := n)).1 (by simpa using h1.symm)
  omega
theorem decL_head {n : Nat} (h : 0 < n) : ∃ d t, d ≠ 0 ∧ d < 10 ∧ decL n = dB d :: t := by
  induction n using Nat.strongRecOn with
  | ind n ih =>
    by_cases hq : n / 10 = 0
    · refine ⟨n % 10, [], by omega, Nat.mod_lt _ (by decide), ?_⟩
      rw [decL_step' n h, hq]; rfl
    · obtain ⟨d, t, h1, h2, h3⟩ := ih (n / 10) (Nat.div_lt_self h (by decide)) (by omega)
      exact ⟨d, t ++ [dB (n % 10)], h1, h2, by rw [decL_step' n h, h3]; rfl⟩
theorem txtL_pos {z : Int} (h : 0 ≤ z) : txtL z = if z = 0 then [48] else decL z.natAbs := by
  unfold txtL
  by_cases h0 : z = 0
  · rw [if_pos h0, if_pos h0]
  · rw [if_neg h0, if_neg h0, if_neg (by omega)]; rfl
theorem txtL_neg {z : Int} (h : z < 0) : txtL z = 45 :: decL z.natAbs := by
  unfold txtL
  rw [if_neg (by omega), if_pos h]; rfl
theorem dB_ne_minus {d : Nat} (h : d < 10) : dB d ≠ 45 := fun e => by
  have := congrArg UInt8.toNat e
  rw [dB_nat h] at this
  have h2 : (45 : UInt8).toNat = 45 := rfl
  omega
theorem dB_ne_zero {d : Nat} (h : d < 10) (h0 : d ≠ 0) : dB d ≠ 48 := fun e => by
  have := congrArg UInt8.toNat e
  rw [dB_nat h] at this
  have h2 : (48 : UInt8).toNat = 48 := rfl
  omega
/-- the digits of an absolute value -/
def absL (n : Nat) : List UInt8 := if n = 0 then [48] else decL n
theorem minus_dec (z : Int) : Minus (decS z) ↔ z < 0 := by
  unfold Minus
  rw [decS_list]
  by_cases h : z < 0
  · rw [txtL_neg h]; exact ⟨fun _ => h, fun _ => rfl⟩
  · refine ⟨fun e => ?_, fun e => absurd e h⟩
    exfalso
    rw [txtL_pos (by omega)] at e
    by_cases h0 : z = 0
    · rw [if_pos h0] at e; cases e
    · rw [if_neg h0] at e
      obtain ⟨d, t, h1, h2, h3⟩ := decL_head (n := z.natAbs) (by omega)
      rw [h3] at e
      exact dB_ne_minus h2 (Option.some.inj e)
theorem unsign_dec (z : Int) : (unsign (decS z)).data.toList = absL z.natAbs := by
  unfold unsign absL
  by_cases h : z < 0
  · rw [if_pos ((minus_dec z).2 h), extractE, decS_list, txtL_neg h, if_neg (by omega)]; rfl
  · rw [if_neg (fun e => h ((minus_dec z).1 e)), decS_list, txtL_pos (by omega)]
    by_cases h0 : z = 0
    · rw [if_pos h0, if_pos (by omega)]
    · rw [if_neg h0, if_neg (by omega)]
theorem parseN_dec (z : Int) : parseN (decS z) = z.natAbs := by
  unfold parseN
  rw [unsign_dec]
  unfold absL
  by_cases h : z.natAbs = 0
  · rw [if_pos h, h]; rfl
  · rw [if_neg h, dval_decL]
theorem parseZ_dec (z : Int) : parseZ (decS z) = z := by
  unfold parseZ
  rw [parseN_dec]
  by_cases h : z < 0
  · rw [decide_eq_true ((minus_dec z).2 h), if_pos rfl]; omega
  · rw [decide_eq_false (fun e => h ((minus_dec z).1 e)), if_neg (by decide)]; omega
theorem decS_inj {x y : Int} (h : decS x = decS y) : x = y := by
  have := congrArg parseZ h
  rwa [parseZ_dec, parseZ_dec] at this
theorem byte_ext {s t : ByteArray} (h : s.data.toList = t.data.toList) : s = t := ByteArray.ext (Array.toList_inj.1 h)
theorem decOK_abs (s : ByteArray) (n : Nat) (h : s.data.toList = absL n) : DecOK s := by
  unfold DecOK
  rw [h]
  unfold absL at *
  by_cases h0 : n = 0
  · rw [if_pos h0] at h ⊢
    refine ⟨fun c hc => ?_, .inl (byte_ext h)⟩
    rw [List.mem_singleton.1 hc]; decide
  · rw [if_neg h0] at h ⊢
    obtain ⟨d, t, h1, h2, h3⟩ := decL_head (n := n) (by omega)
    refine ⟨decL_dig n, .inr ⟨fun e => ?_, ?_⟩⟩
    · rw [e, h3] at h; cases h
    · rw [h3, List.getD_cons_zero]; exact dB_ne_zero h2 h1
theorem parseOK_dec (z : Int) : parseOK (decS z) := by
  refine ⟨decOK_abs _ _ (unsign_dec z), fun e => ?_⟩
  rw [decS_list] at e
  by_cases h : z < 0
  · rw [txtL_neg h] at e
    obtain ⟨d, t, h1, h2, h3⟩ := decL_head (n := z.natAbs) (by omega)
    rw [h3] at e
    exact dB_ne_zero h2 h1 (List.cons.inj (List.cons.inj e).2).1
  · rw [txtL_pos (by omega)] at e
    by_cases h0 : z = 0
    · rw [if_pos h0] at e; cases e
    · rw [if_neg h0] at e
      obtain ⟨d, t, h1, h2, h3⟩ := decL_head (n := z.natAbs) (by omega)
      rw [h3] at e
      exact dB_ne_minus h2 (List.cons.inj e).1
theorem size_list (s : ByteArray) : s.size = s.data.toList.length := Array.length_toList.symm
theorem txtL_len (z : Int) : (txtL z).length ≤ 1 + (digs 10 z.natAbs).length := by
  by_cases h : z < 0
  · rw [txtL_neg h, List.length_cons, decL_len]; omega
  · rw [txtL_pos (by omega)]
    by_cases h0 : z = 0
    · rw [if_pos h0]; exact Nat.le_add_right 1 _
    · rw [if_neg h0, decL_len]; omega
theorem inR_two {z : Int} : InR z ↔ z.natAbs < 2 ^ 16384 := words_two 512 16384 _ (by decide)
theorem inR_sm {z : Int} (h : Sm z 16384) : InR z := inR_two.2 h
theorem dec_size {z : Int} (h : InR z) : (decS z).size ≤ 4957 := by
  rw [size_list, decS_list]
  have h1 := txtL_len z
  have h2 := two_ten 177 16384 z.natAbs (inR_two.1 h) (by decide)
  omega
theorem codeP_dec (z : Int) : codeP (decS z) = if InR z then 0 else 4 := by
  unfold codeP
  rw [parseZ_dec, if_neg (not_not_intro (parseOK_dec z))]
  by_cases h : InR z
  · have := dec_size h
    rw [if_neg (by omega)]
  · rw [if_neg h]; split <;> rfl
/-- the text of what has been read -/
theorem decL_dval : ∀ (n : Nat) (l : List UInt8), l.length = n → (∀ c ∈ l, IsDig c) → l ≠ [] → l.getD 0 0 ≠ 48 → decL (dval l) = l ∧ 0 < dval l := by
  intro n
  induction n with
  | zero => intro l h1 _ h3 _; exact absurd (List.eq_nil_of_length_eq_zero h1) h3
  | succ n ih =>
    intro l h1 h2 h3 h4
    obtain ⟨a, c, rfl⟩ : ∃ a c, l = a ++ [c] := ⟨l.dropLast, l.getLast h3, (List.dropLast_concat_getLast h3).symm⟩
    have hc := h2 c (by simp)
    have hcv : dval [c] = c.toNat - 48 := by show 0 * 10 + (c.toNat - 48) = _; omega
    have hdB : dB (c.toNat - 48) = c := by
      unfold dB
      rw [show 48 + (c.toNat - 48) = c.toNat from by have := hc.1; omega]
      exact UInt8.toNat_inj.1 (by rw [UInt8.toNat_ofNat', Nat.mod_eq_of_lt c.toNat_lt])
    have hc2 : c.toNat - 48 < 10 := by have := hc.2; omega
    rw [dval_app, hcv]
    simp only [List.length_cons, List.length_nil, Nat.zero_add, Nat.pow_one]
    cases a with
    | nil =>
      rw [List.nil_append, List.getD_cons_zero] at h4
      have h5 : c.toNat ≠ 48 := fun e => h4 (UInt8.toNat_inj.1 e)
      have h6 := hc.1
      have h7 : 0 < 10 * 0 + (c.toNat - 48) := by omega
      have := decL_step 0 (c.toNat - 48) hc2 h7
      rw [show dval [] = 0 from rfl, Nat.zero_mul, Nat.zero_add]
      rw [Nat.mul_zero, Nat.zero_add] at this h7
      exact ⟨by rw [this, hdB]; rfl, h7⟩
    | cons x t =>
      have h5 : (x :: t).length = n := by simp at h1; simpa using h1
      obtain ⟨i1, i2⟩ := ih (x :: t) h5 (fun y hy => h2 y (List.mem_append_left _ hy)) (by simp) (by simpa using h4)
      have := decL_step (dval (x :: t)) (c.toNat - 48) hc2 (by omega)
      rw [Nat.mul_comm (dval (x :: t)) 10, this, i1, hdB]
      exact ⟨rfl, by omega⟩
theorem dec_parse (s : ByteArray) (h : parseOK s) : decS (parseZ s) = s := by
  refine byte_ext ?_
  rw [decS_list]
  obtain ⟨⟨h1, h2⟩, h3⟩ := h
  have habs : ∀ u : ByteArray, (∀ c ∈ u.data.toList, IsDig c) → (u = ⟨#[48]⟩ ∨ (u ≠ ⟨#[]⟩ ∧ u.data.toList.getD 0 0 ≠ 48)) → (u = ⟨#[48]⟩ ∧ dval u.data.toList = 0) ∨ (decL (dval u.data.toList) = u.data.toList ∧ 0 < dval u.data.toList) := fun u k1 k2 => by
    rcases k2 with k2 | ⟨k2, k3⟩
    · left; rw [k2]; exact ⟨rfl, rfl⟩
    · right
      exact decL_dval _ _ rfl k1 (fun e => k2 (byte_ext e)) k3
  have hu := habs _ h1 h2
  unfold parseZ parseN
  by_cases hm : Minus s
  · rw [decide_eq_true hm, if_pos rfl]
    have hus : (unsign s).data.toList = s.data.toList.drop 1 := by unfold unsign; rw [if_pos hm, extractE]
    have hsl : s.data.toList = 45 :: s.data.toList.drop 1 := by
      unfold Minus at hm
      cases hl : s.data.toList with
      | nil => rw [hl] at hm; cases hm
      | cons c t => rw [hl] at hm; rw [Option.some.inj hm]; rfl
    rcases hu with ⟨u1, u2⟩ | ⟨u1, u2⟩
    · exfalso
      apply h3
      rw [hsl, ← hus, u1]
    · rw [txtL_neg (by omega), hsl, ← hus, Int.natAbs_neg, Int.natAbs_natCast, u1]
  · rw [decide_eq_false hm, if_neg (by decide)]
    have hus : unsign s = s := if_neg hm
    rw [hus] at hu ⊢
    rw [txtL_pos (by omega)]
    rcases hu with ⟨u1, u2⟩ | ⟨u1, u2⟩
    · rw [u2, if_pos (by rfl), u1]
    · rw [if_neg (by omega), Int.natAbs_natCast, u1]
/-- a digit in base 10000, with zeros in front -/
def pad4 (r : Nat) : List UInt8 := [dB (r / 1000), dB (r / 100 % 10), dB (r / 10 % 10), dB (r % 10)]
theorem decL_pad (q r : Nat) (hq : 0 < q) (hr : r < 10000) : decL (10000 * q + r) = decL q ++ pad4 r := by
  have e1 : 10000 * q + r = 10 * (1000 * q + r / 10) + r % 10 := by omega
  have e2 : 1000 * q + r / 10 = 10 * (100 * q + r / 100) + r / 10 % 10 := by omega
  have e3 : 100 * q + r / 100 = 10 * (10 * q + r / 1000) + r / 100 % 10 := by omega
  rw [e1, decL_step _ _ (Nat.mod_lt _ (by decide)) (by omega), e2, decL_step _ _ (Nat.mod_lt _ (by decide)) (by omega), e3, decL_step _ _ (Nat.mod_lt _ (by decide)) (by omega), decL_step _ _ (by omega) (by omega)]
  simp [pad4]
theorem pad_of (r : Nat) (hr : r < 10000) : pad4 r = List.replicate (4 - (txtL r).length) 48 ++ txtL r := by
  rw [txtL_pos (by omega), Int.natAbs_natCast]
  have z : dB 0 = 48 := rfl
  by_cases h0 : r = 0
  · subst h0; rfl
  · rw [if_neg (by omega)]
    have s1 := decL_step' r (by omega)
    by_cases h1 : r < 10
    · rw [Nat.div_eq_of_lt h1, decL_zero] at s1
      rw [s1]
      simp only [pad4, show r / 1000 = 0 by omega, show r / 100 % 10 = 0 by omega, show r / 10 % 10 = 0 by omega, z]
      rfl
    · have s2 := decL_step' (r / 10) (by omega)
      by_cases h2 : r < 100
      · rw [Nat.div_eq_of_lt (show r / 10 < 10 by omega), decL_zero] at s2
        rw [s1, s2]
        simp only [pad4, show r / 1000 = 0 by omega, show r / 100 % 10 = 0 by omega, z]
        rfl
      · have s3 := decL_step' (r / 10 / 10) (by omega)
        by_cases h3 : r < 1000
        · rw [Nat.div_eq_of_lt (show r / 10 / 10 < 10 by omega), decL_zero] at s3
          rw [s1, s2, s3]
          simp only [pad4, show r / 1000 = 0 by omega, show r / 10 / 10 % 10 = r / 100 % 10 by omega, z]
          rfl
        · have s4 := decL_step' (r / 10 / 10 / 10) (by omega)
          rw [Nat.div_eq_of_lt (show r / 10 / 10 / 10 < 10 by omega), decL_zero] at s4
          rw [s1, s2, s3, s4]
          simp only [pad4, show r / 10 / 10 % 10 = r / 100 % 10 by omega, show r / 10 / 10 / 10 % 10 = r / 1000 by omega]
          rfl
end Go.Proofs.YtmpdoikdadjneaaDoor

/- The reference's Decimal. -/
namespace Go.Proofs.YtmpdoikdadjneaaDoor
open Go.RowKit Go.Shelf Hb Vm Ds Vr

theorem digit_at (d : Nat) (h : d < 10) : (ByteArray.mk #[48, 49, 50, 51, 52, 53, 54, 55, 56, 57]).extract d (d + 1) = ⟨#[dB d]⟩ := by
  have : d = 0 ∨ d = 1 ∨ d = 2 ∨ d = 3 ∨ d = 4 ∨ d = 5 ∨ d = 6 ∨ d = 7 ∨ d = 8 ∨ d = 9 := by omega
  rcases this with h | h | h | h | h | h | h | h | h | h <;> subst h <;> rfl
theorem app_list (a b : ByteArray) : (a ++ b).data.toList = a.data.toList ++ b.data.toList := by simp
theorem app_size (a b : ByteArray) : (a ++ b).size = a.size + b.size := by rw [size_list, app_list, List.length_append, ← size_list, ← size_list]

set_option maxRecDepth 100000 in
set_option maxHeartbeats 4000000 in
theorem decimal_any (n : Nat) (N : Int) (hN : N = (n : Int)) (hn : n < 1000000000000) (w : World) :
    Calls Tryd.prog 44 #[.int .i64 N] w fun e W' => e = .returned (.string (decS (n : Int))) ∧ w = W' := by
  subst hN
  obtain ⟨t, ht⟩ : ∃ t, t = decS (n : Int) := ⟨_, rfl⟩
  rw [← ht]
  by_cases h0 : n = 0
  · subst h0
    have : t = ⟨#[48]⟩ := by rw [ht]; rfl
    subst this
    clear ht hn
    go_enter Tryd.func44, Tryd.ntmps44
    go_wp2_with fail
    go_ret
    exact ⟨rfl, rfl⟩
  · have hz : ((n : Int) == 0) = false := beq_eq_false_iff_ne.2 (by omega)
    have htl : Hid (t.data.toList = decL n) := Lib.hid (by rw [ht, decS_list, txtL_pos (by omega), if_neg (by omega), Int.natAbs_natCast])
    have hln : Hid ((decL n).length ≤ 19) := Lib.hid (by rw [decL_len]; exact Nat.le_trans (digs_len_le (b := 10) (k := 12) (by decide) (by omega)) (by decide))
    clear ht h0
    go_enter Tryd.func44, Tryd.ntmps44
    go_wp2_with fail
    go_loop [4, 5] (fun sv kv => ∃ (k : Nat) (s : ByteArray), sv = .string s ∧ kv = .int .i64 k ∧ k ≤ n ∧ Hid (decL n = decL k ++ s.data.toList)) (fun _ kv => (intOf kv).toNat)
    case atStart => exact ⟨n, ⟨#[]⟩, rfl, rfl, Nat.le_refl _, Lib.hid (by simp)⟩
    case round =>
      obtain ⟨k, s, rfl, rfl, hkn, hd⟩ := hrel
      by_cases hk : k = 0
      · subst hk
        have hst : s = t := byte_ext (by have := hd.out; rw [decL_zero, List.nil_append] at this; rw [htl.out, this])
        subst hst
        have hn0 : ¬ (n : Int) < 0 := by omega
        clear hd hz
        go_wp2_with fail
        go_ret
        exact ⟨rfl, rfl⟩
      · have hk0 : ((k : Int) == 0) = false := beq_eq_false_iff_ne.2 (by omega)
        obtain ⟨q, hq⟩ : ∃ q, q = k / 10 := ⟨_, rfl⟩
        obtain ⟨r, hr⟩ : ∃ r, r = k % 10 := ⟨_, rfl⟩
        have hr10 : r < 10 := by omega
        have hqk : q < k := by omega
        have e1 : (k : Int) % 10 = (r : Int) := by omega
        have e2 : (k : Int) / 10 = (q : Int) := by omega
        have e3 : ¬ (r : Int) < 0 := by omega
        have e4 : (0 : Int) ≤ (r : Int) := by omega
        have hs : Hid (decL n = decL q ++ (dB r :: s.data.toList)) := Lib.hid (by rw [hd.out, decL_step' k (by omega), ← hq, ← hr]; simp)
        have hrs : ∀ W : World, Sem.run Tryd.prog (Instr.slice 9 (Value.string ⟨#[48, 49, 50, 51, 52, 53, 54, 55, 56, 57]⟩) (some (Value.int .i64 (r : Int))) (some (Value.int .i64 ((r : Int) + 1))) none) W = .ok (.string ⟨#[dB r]⟩) W := fun W => by
          rw [run_slice_string_if W _ _ _ _ _ _ Tryd.underlying9, if_pos ⟨by omega, by show (r : Int) + 1 ≤ 10; omega⟩, if_pos ⟨by omega, by omega⟩, ← digit_at r hr10]
          congr 1
        have hsz : (ByteArray.mk #[dB r]).size + s.size ≤ 9223372036854775807 := by
          have h1 := congrArg List.length hs.out
          have h2 := hln.out
          rw [List.length_append, List.length_cons] at h1
          rw [size_list s]
          show 1 + _ ≤ _
          omega
        have hrun := fun w => run_string_add_sum (P := Tryd.prog) (w := w) ⟨#[dB r]⟩ s hsz
        clear hq hr hd hk
        go_wp2_with fail
        go_round
        case rel => exact ⟨q, ⟨#[dB r]⟩ ++ s, rfl, by go_num, by omega, Lib.hid (by rw [app_list]; exact hs.out)⟩
        case measure => simp [intOf]; omega
end Go.Proofs.YtmpdoikdadjneaaDoor

/- The reference's Text. -/
namespace Go.Proofs.YtmpdoikdadjneaaDoor
open Go.RowKit Go.Shelf Hb Vm Ds Vr

theorem digit_big (n i : Nat) : val 10000 ((ds n).drop i) = (ds n).getD i 0 + 10000 * val 10000 ((ds n).drop (i + 1)) := by
  by_cases h : i < (ds n).length
  · exact val_drop_step 10000 (ds n) i h
  · rw [List.drop_of_length_le (by omega), List.drop_of_length_le (by omega), List.getD_eq_getElem?_getD, List.getElem?_eq_none (by omega)]; rfl
theorem pad_list (r : Nat) (hr : r < 10000) (s : ByteArray) (k : Nat) (hs : s.data.toList = List.replicate k 48 ++ txtL (r : Int)) (h4 : 4 ≤ s.size) (hk : k = 0 ∨ k + (txtL (r : Int)).length ≤ 4) : s.data.toList = pad4 r := by
  rw [pad_of r hr, hs]
  have h1 : s.size = k + (txtL (r : Int)).length := by rw [size_list, hs, List.length_append, List.length_replicate]
  rcases hk with h | h
  · subst h
    have : (txtL (r : Int)).length ≤ 4 := by
      have h2 := congrArg List.length (pad_of r hr)
      rw [List.length_append, List.length_replicate] at h2
      have h3 : (pad4 r).length = 4 := rfl
      omega
    rw [show 4 - (txtL (r : Int)).length = 0 by omega]
  · rw [show 4 - (txtL (r : Int)).length = k by omega]

set_option maxRecDepth 100000 in
set_option maxHeartbeats 8000000 in
theorem text_any (x : Int) (vx : Value) (w : World) (hvx : Ni w w.heap.size vx x) (hlx : (ds x.natAbs).length ≤ 100000) :
    Calls Tryd.prog 12 #[vx] w fun e W' => e = .returned (.string (decS x)) ∧ Below w.heap.size w W' := by
  obtain ⟨ux, rfl, hx⟩ := hvx
  obtain ⟨A, c, rfl, hrx, hc1, hc2⟩ := hx
  unfold intV
  obtain ⟨N, hN⟩ : ∃ N, N = x.natAbs := ⟨_, rfl⟩
  rw [← hN] at hrx hc1 hlx ⊢
  obtain ⟨n, hn⟩ : ∃ n, n = (ds N).length := ⟨_, rfl⟩
  have hn0 : (ds N).length = 0 ↔ N = 0 := digs_nil (by decide)
  rw [← hn] at hrx hc1 hlx hn0 ⊢
  obtain ⟨s, hs⟩ : ∃ s, s = decide (x < 0) := ⟨_, rfl⟩
  rw [← hs]
  obtain ⟨T, hT⟩ : ∃ T, T = decS x := ⟨_, rfl⟩
  rw [← hT]
  obtain ⟨w1, hw1⟩ : ∃ w1, w1 = w.alloc (.cells #[.bool s, .slice A n c] 25) := ⟨_, rfl⟩
  have b1 : Row w1 w.heap.size 25 [.bool s, .slice A n c] := by rw [hw1]; exact Row.new w _ [.bool s, .slice A n c]
  have bw : Below w.heap.size w w1 := by rw [hw1]; exact (Below.refl _ w).alloc (Nat.le_refl _) _
  have hrx1 := hrx.later bw (Nat.le_refl _)
  have k0 := b1.cell 0 _ rfl
  have k1 := b1.cell 1 _ rfl
  have HN := Lib.hid hn
  have HLX := Lib.hid hlx
  by_cases hz : n = 0
  · subst hz
    have hx0 : x = 0 := by have := hn0.1 rfl; omega
    have : T = ⟨#[48]⟩ := by rw [hT, hx0]; rfl
    subst this
    clear hT hn hn0 hN hs hx0
    go_enter Tryd.func12, Tryd.ntmps12
    go_wp2_with fail
    go_ret
    rw [← hw1]
    exact ⟨rfl, bw⟩
  · have hNp : 0 < N := by have := fun e => hz (hn0.2 e); omega
    have hz' : ((n : Int) == 0) = false := beq_eq_false_iff_ne.2 (by omega)
    obtain ⟨m, rfl⟩ : ∃ m, n = m + 1 := ⟨n - 1, by omega⟩
    obtain ⟨a, rfl, hba, hca⟩ := Rd.digit hrx1 (show m < m + 1 by omega)
    obtain ⟨f, hf⟩ : ∃ f, f = (ds N).getD m 0 := ⟨_, rfl⟩
    have hfl : f < 10000 := by rw [hf]; exact (ds_dig N).get (by decide) m
    have hf0 : Hid (0 < f ∧ val 10000 ((ds N).drop m) = f) := Lib.hid (by
      have h1 : (ds N).drop (m + 1) = [] := List.drop_of_length_le (by omega)
      have h2 := digit_big N m
      rw [h1, ← hf] at h2
      refine ⟨?_, by simpa [val] using h2⟩
      have hne : digs 10000 N ≠ [] := fun e => by rw [show ds N = digs 10000 N from rfl, e] at hn; simp at hn
      have h3 := digs_last (b := 10000) (by decide) N hne
      have h4 : (digs 10000 N).getLast hne = f := by
        show _ = f
        rw [hf, show ds N = digs 10000 N from rfl, List.getLast_eq_getElem, List.getD_eq_getElem?_getD, List.getElem?_eq_getElem (by rw [show digs 10000 N = ds N from rfl, ← hn]; omega)]
        have : (digs 10000 N).length - 1 = m := by have : (ds N).length = (digs 10000 N).length := rfl; omega
        simp only [this, Option.getD_some]
      omega)
    rw [← hf] at hca
    have HF := Lib.hid hf
    have HS : Hid (T.data.toList = (if s = true then [45] else []) ++ decL N) := Lib.hid (by
      rw [hT, decS_list, hs, hN]
      by_cases h : x < 0
      · rw [txtL_neg h, decide_eq_true h, if_pos rfl]; rfl
      · rw [txtL_pos (by omega), if_neg (by omega), decide_eq_false h, if_neg (by decide)]; rfl)
    have e1 : (0 : Int) ≤ (m : Int) := by omega
    have e2 : ((m : Int) + 1 == 0) = false := beq_eq_false_iff_ne.2 (by omega)
    have e3 : (m : Int) + 1 - 2 = (m : Int) - 1 := by omega
    have hca0 := hca
    rw [hw1] at hca0
    clear hT hn hn0 hN hs hz hf
    go_enter Tryd.func12, Tryd.ntmps12
    go_wp2_with fail
    rw [← hw1]
    clear hca0
    refine (decimal_any f (f : Int) rfl (by omega) w1).mono ?_
    rintro e W1 ⟨rfl, rfl⟩
    obtain ⟨t0, ht0⟩ : ∃ t0, t0 = decS (f : Int) := ⟨_, rfl⟩
    rw [← ht0]
    have hz4 : ∀ (g : Nat), g < 10000 → (txtL (g : Int)).length ≤ 4 := fun g hg => by
      have h2 := congrArg List.length (pad_of g hg)
      rw [List.length_append, List.length_replicate] at h2
      have h3 : (pad4 g).length = 4 := rfl
      omega
    have HZ4 := Lib.hid hz4
    have ht0l : Hid (t0.data.toList = decL f) := Lib.hid (by
      have := hf0.out.1
      rw [ht0, decS_list, txtL_pos (by omega), if_neg (by omega), Int.natAbs_natCast])
    have ht0s : Hid (t0.size ≤ 4) := Lib.hid (by rw [size_list, ht0, decS_list]; exact HZ4.out f hfl)
    clear ht0 hca hz4 hw1
    go_wp2_with fail
    go_loop [3, 4] (fun ov iv => ∃ (j : Nat) (o : ByteArray), ov = .string o ∧ iv = .int .i64 ((j : Int) - 1) ∧ j ≤ m ∧ Hid (o.data.toList = decL (val 10000 ((ds N).drop j))) ∧ Hid (0 < val 10000 ((ds N).drop j)) ∧ Hid (o.size + 4 * j ≤ 4 * (m + 1))) (fun _ iv => (intOf iv + 1).toNat)
    case atStart => exact ⟨m, t0, rfl, rfl, Nat.le_refl _, Lib.hid (by rw [hf0.out.2]; exact ht0l.out), Lib.hid (by rw [hf0.out.2]; exact hf0.out.1), Lib.hid (by have := ht0s.out; omega)⟩
    case round =>
      obtain ⟨j, o, rfl, rfl, hj, hol, hop, hos⟩ := hrel
      cases j with
      | zero =>
        have hoN : Hid (o.data.toList = decL N) := Lib.hid (by have := hol.out; rwa [List.drop_zero, ds_val] at this)
        have hsz : (ByteArray.mk #[45]).size + o.size ≤ 9223372036854775807 := by
          have := hos.out; have := HLX.out
          show 1 + _ ≤ _
          omega
        have hrun := fun w => run_string_add_sum (P := Tryd.prog) (w := w) ⟨#[45]⟩ o hsz
        cases s with
        | true =>
          have hT : T = ⟨#[45]⟩ ++ o := byte_ext (by rw [HS.out, app_list, hoN.out]; rfl)
          subst hT
          clear hol hop hos
          go_wp2_with fail
          go_ret
          exact ⟨rfl, bw⟩
        | false =>
          have hT : T = o := byte_ext (by rw [HS.out, hoN.out]; rfl)
          subst hT
          clear hol hop hos hrun
          go_wp2_with fail
          go_ret
          exact ⟨rfl, bw⟩
      | succ k =>
        obtain ⟨a1, ea, hba1, hck⟩ := Rd.digit hrx1 (show k < m + 1 by omega)
        obtain rfl : a = a1 := Option.some.inj ea
        obtain ⟨g, hg⟩ : ∃ g, g = (ds N).getD k 0 := ⟨_, rfl⟩
        have hgl : g < 10000 := by rw [hg]; exact (ds_dig N).get (by decide) k
        rw [← hg] at hck
        have HG := Lib.hid hg
        have i1 : ((k + 1 : Nat) : Int) - 1 = (k : Int) := by omega
        have i2 : (0 : Int) ≤ (k : Int) := by omega
        have i3 : (k : Int) < (m : Int) + 1 := by omega
        have HST : Hid (decL (val 10000 ((ds N).drop k)) = o.data.toList ++ pad4 g ∧ 0 < val 10000 ((ds N).drop k)) := Lib.hid (by
          rw [digit_big N k, ← hg, Nat.add_comm g, decL_pad _ g hop.out hgl, hol.out]
          exact ⟨rfl, by have := hop.out; omega⟩)
        clear hg ea hba1 hol hop
        simp only [i1]
        go_wp2_with fail
        refine (decimal_any g (g : Int) rfl (by omega) w1).mono ?_
        rintro e W1 ⟨rfl, rfl⟩
        obtain ⟨t1, ht1⟩ : ∃ t1, t1 = decS (g : Int) := ⟨_, rfl⟩
        rw [← ht1]
        have ht1l : Hid (t1.data.toList = txtL (g : Int)) := Lib.hid (by rw [ht1, decS_list])
        clear ht1
        go_wp2_with fail
        go_loop [5] (fun uv => ∃ (p : Nat) (u : ByteArray), uv = .string u ∧ Hid (u.data.toList = List.replicate p 48 ++ txtL (g : Int)) ∧ Hid (p = 0 ∨ p + (txtL (g : Int)).length ≤ 4)) (fun uv => 4 - strLen uv)
        case atStart => exact ⟨0, t1, rfl, Lib.hid (by rw [ht1l.out]; rfl), Lib.hid (.inl rfl)⟩
        case round =>
          obtain ⟨p, u, rfl, hul, hup⟩ := hrel
          by_cases hu4 : u.size < 4
          · have hu4' : (u.size : Int) < 4 := by omega
            have hsz : (ByteArray.mk #[48]).size + u.size ≤ 9223372036854775807 := by show 1 + _ ≤ _; omega
            have hrun := fun w => run_string_add_sum (P := Tryd.prog) (w := w) ⟨#[48]⟩ u hsz
            have HU4 := Lib.hid hu4
            clear hsz hu4
            go_wp2_with fail
            go_round
            case rel =>
              refine ⟨p + 1, ⟨#[48]⟩ ++ u, rfl, Lib.hid (by rw [app_list, hul.out, List.replicate_succ]; rfl), Lib.hid (.inr ?_)⟩
              have h1 := HU4.out
              rw [size_list, hul.out, List.length_append, List.length_replicate] at h1
              omega
            case measure =>
              have h1 := HU4.out
              have h2 := app_size ⟨#[48]⟩ u
              have h3 : (ByteArray.mk #[48]).size = 1 := rfl
              show 4 - (ByteArray.mk #[48] ++ u).size < 4 - u.size
              omega
          · have hu4' : ¬ (u.size : Int) < 4 := by omega
            have HP : Hid (u.data.toList = pad4 g) := Lib.hid (pad_list g hgl u p hul.out (by omega) hup.out)
            have hus : u.size = 4 := by rw [size_list, HP.out]; rfl
            have hsz : o.size + u.size ≤ 9223372036854775807 := by
              have := hos.out; have := HLX.out
              omega
            have hrun := fun w => run_string_add_sum (P := Tryd.prog) (w := w) o u hsz
            have HUS := Lib.hid hus
            clear hsz hu4 hus
            go_wp2_with fail
            go_round
            case rel => exact ⟨k, o ++ u, rfl, by first | rfl | go_num, by omega, Lib.hid (by rw [app_list, HP.out]; exact HST.out.1.symm), Lib.hid HST.out.2, Lib.hid (by rw [app_size]; have := hos.out; have := HUS.out; omega)⟩
            case measure => simp [intOf]
end Go.Proofs.YtmpdoikdadjneaaDoor
