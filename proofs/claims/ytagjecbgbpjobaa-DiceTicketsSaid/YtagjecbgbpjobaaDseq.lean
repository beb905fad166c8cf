/- A range over a function whose iterator writes ONE block that lay there before the loop (a method that moves its receiver's field): a contract for the iterator, told by how many rounds are over, and the law for the loop. No program is named here. -/
import Derived.RangeFuncNested
import Derived.RangeFuncBound
import Derived.RangeFuncCalls
import Derived.RangeFuncLeaves
import Derived.RangeFuncBox
import Derived.Test.YtagjecbgbpjobaaHbase
namespace Go.Proofs.Ytagjecbgbpjobaa.Ds
open Go Go.RowKit

/-- the streams, and of the blocks below B all but p, are as they were -/
structure But (B p : Nat) (w w' : World) : Prop where
  low : Below p w w'
  mid : ∀ k, p < k → k < B → w'.heap[k]? = w.heap[k]?

section
variable {B B' p : Nat} {a b c w w' : World}
theorem But.refl (B p : Nat) (w : World) : But B p w w := ⟨Below.refl _ _, fun _ _ _ => rfl⟩
theorem But.trans (h : But B p a b) (k : But B p b c) : But B p a c := ⟨h.low.trans k.low, fun i h1 h2 => (k.mid i h1 h2).trans (h.mid i h1 h2)⟩
theorem But.mono (h : But B p w w') (hB : B' ≤ B) : But B' p w w' := ⟨h.low, fun k h1 h2 => h.mid k h1 (by omega)⟩
theorem But.of_below (h : Below B w w') (hp : p ≤ B) : But B p w w' := ⟨h.mono hp, fun k _ h2 => h.block k h2⟩
theorem But.size (h : But B p w w') : w.heap.size ≤ w'.heap.size := h.low.size
theorem But.block (h : But B p w w') {k : Nat} (h1 : k < B) (h2 : k ≠ p) : w'.heap[k]? = w.heap[k]? := by
  by_cases hk : k < p
  · exact h.low.block k hk
  · exact h.mid k (by omega) h1
theorem But.later (h : But B p a b) (k : Below B' b c) (hB : B ≤ B') (hp : p ≤ B') : But B p a c := h.trans ((But.of_below k hp).mono hB)
theorem But.setCell (B p o : Nat) (w : World) (u : Value) : But B p w (w.setCell ⟨p, o, none⟩ u) :=
  ⟨(Below.refl p w).setCell (p := ⟨p, o, none⟩) (Nat.le_refl _) u, fun k h1 _ => Below.heap_setCell _ _ _ _ (by show k ≠ p; omega)⟩
theorem But.below (h : But B p w w') : Below p w w' := h.low
theorem But.boxed {q : Nat} {t : TypeId} {v : Value} (h : But B p w w') (hb : Boxed w q t v) (hq : q < B) (hne : q ≠ p) : Boxed w' q t v := (h.block hq hne).trans hb
end

/-- **THE ITERATOR's CONTRACT.** 'St k W': k elements have been handed over, and its own memory says so; 'Kp': what a round that goes on keeps for it; of what lay in a world it turns block p alone. -/
def SeqOwn (F : Fence) (n : Nat) (P : Program) (g : Nat) (bd lb : Array Value) (encs : Nat → Array Value) (N p : Nat) (Kp : World → World → Prop) (St : Nat → World → Prop) : Prop :=
  ∀ (l : Nat) (J Jx : Nat → World → Prop) (W : World), (∀ k A B, J k A → But A.heap.size p A B → J k B) →
    (∀ k W1, J k W1 → St (k + 1) W1 → k < N → YieldAt F (n - 1) P l (encs k) W1 fun e W' =>
      (e = .returned (.bool true) ∧ J (k + 1) W' ∧ Kp W1 W') ∨ (e = .returned (.bool false) ∧ Jx (k + 1) W')) →
    J 0 W → St 0 W →
    CallsIn F n P g (bd ++ #[.func (.yield l) #[] #[]] ++ lb) W fun e W' => (∃ v, e = .returned v) ∧ ((J N W' ∧ St N W') ∨ ∃ k, k < N ∧ Jx (k + 1) W')

/-- how the body of a round may be left -/
def leftBy (Kp : World → World → Prop) (I : Nat → World → Prop) (Ix : Code → Nat → World → Prop) (k : Nat) (W : World) : Exit → Act → World → Prop
  | .normal, _, W' => KeepsOthers W W' ∧ Kp W W' ∧ I k W'
  | .ret, _, W' => KeepsOthers W W' ∧ Ix .ret k W'
  | .exit id, _, W' => KeepsOthers W W' ∧ Ix (.exit id) k W'
  | .goto t, _, W' => KeepsOthers W W' ∧ Ix (.goto t) k W'
  | .panic _, _, _ => False
  | .outgrown, _, _ => False

theorem putObj_below {B l : Nat} (W : World) (o : Obj) (h : B ≤ l) : Below B W (W.putObj l o) :=
  ⟨rfl, rfl, rfl, by simp, fun k hk => World.putObj_heap_other (by omega)⟩

/-- **THE LOOP.** -/
theorem wpIn_rangeFunc_seq {F : Fence} {n : Nat} {P : Program} {g : Operand} {ps : Array Tmp} {assign body : Code} {Q : Exit → Act → World → Prop} {a : Act} {w : World}
    (hro : F.round = none) (h1 : 1 ≤ n) {gf : Nat} {bd lb : Array Value} (hg : a.eval g = .func (.func gf) bd lb) (hFg : F.fn gf) (eg : ∀ args w, (callFunc gf args).run P w = .ok (.enter gf args) w)
    {encs : Nat → Array Value} {N p : Nat} {Kp : World → World → Prop} {St : Nat → World → Prop} (hp : p < w.heap.size) (hseq : SeqOwn F (n - 1) P gf bd lb encs N p Kp St)
    (hKt : ∀ {A B C : World}, Kp A B → Kp B C → Kp A C) (hKb : ∀ A B : World, Below w.heap.size A B → Kp A B) (hSt : ∀ k A B, St k A → Below w.heap.size A B → St k B) (hs0 : St 0 w) (hps : ∀ k, (encs k).size = ps.size)
    (I : Nat → World → Prop) (Ix : Code → Nat → World → Prop) (hI : ∀ k A B, w.heap.size ≤ A.heap.size → I k A → But w.heap.size p A B → I k B) (hIx : ∀ c k A B, Ix c k A → Below w.heap.size A B → Ix c k B) (h0 : I 0 w) (a₁ : Nat → Act)
    (hassign : ∀ (l k : Nat) (W : World) (K : Act → World → Prop), K (a₁ k) W →
      assign.wpIn (F.inRound l) (n - 1 - 1) P (Exit.then K (fun _ _ _ => False)) { tmps := (ps.zip (encs k)).foldl (fun t (p, v) => t.setIfInBounds p v) a.tmps, defers := [] } W)
    (hbody : ∀ (l k : Nat) (W : World), w.heap.size ≤ W.heap.size → I k W → St (k + 1) W → k < N → body.wpIn (F.inRound l) (n - 1 - 1) P (leftBy Kp I Ix (k + 1) W) (a₁ k) W)
    (hdone : ∀ (D : Nat) (W : World), w.heap.size ≤ D → I N W → St N W → W.heap[D]? = some (.deferred (some [])) → Q .normal { a with defers := { target := .collected D, args := #[] } :: a.defers } W)
    (hstop : ∀ (D : Nat) (c : Code) (k : Nat) (W : World), w.heap.size ≤ D → k < N → Ix c (k + 1) W → W.heap[D]? = some (.deferred (some [])) → c.wpIn F n P Q { a with defers := { target := .collected D, args := #[] } :: a.defers } W) :
    (Code.rangeFunc g ps assign body).wpIn F n P Q a w := by
  refine wpIn_rangeFunc ?_
  intro fn hfn
  rw [hro]
  -- the loop's record lies at D + 1, the block for the rounds' deferred calls at D
  obtain ⟨D, hD⟩ : ∃ D, D = w.heap.size := ⟨_, rfl⟩
  obtain ⟨R, hR⟩ : ∃ R : LoopState → Option Code → Loop, R = fun st pe => { state := st, pending := pe, fn, tmps := a.tmps, params := ps, assign, body, defers := D } := ⟨_, rfl⟩
  obtain ⟨V, hV⟩ : ∃ V, (w.alloc (.deferred (some []))).alloc (.loop (R .ready none)) = V := ⟨_, rfl⟩
  rw [← hD] at hp hKb hSt hI hIx hbody hdone hstop
  have bV : Below D w V := by rw [← hV, hD]; exact ((Below.refl _ w).alloc (Nat.le_refl _) _).alloc (by simp) _
  have lV : V.heap[D + 1]? = some (.loop (R .ready none)) := by
    rw [← hV, hD]
    have h := World.alloc_heap_new (w.alloc (.deferred (some []))) (.loop (R .ready none))
    rwa [World.size_alloc] at h
  have dV : V.heap[D]? = some (.deferred (some [])) := by
    rw [← hV, hD]
    exact (Below.heap_alloc _ _ _ (by simp)).trans (World.alloc_heap_new w _)
  refine ⟨D + 1, [{ target := .collected D, args := #[] }], V, { target := .fn (.func gf) lb, args := bd ++ #[.func (.yield (D + 1)) #[] #[]] }, V, gf,
    bd ++ #[.func (.yield (D + 1)) #[] #[]] ++ lb, V, ?_, ?_, ?_, ?_, fun _ => h1, ?_⟩
  · rw [← hV, hR, hD]; exact run_enterLoop_outer _ _ _ _ _
  · simp only [resolve, hg]
    simp [go_sem]
  · intro f' hf'
    simp [Target.leads] at hf'
    subst hf'
    exact hFg
  · simp [invoke, go_sem, eg]
  have szb : ∀ {A : World}, A.heap[D + 1]? = some (.loop (R .ready none)) → D + 1 < A.heap.size := fun h => (Array.getElem?_eq_some_iff.1 h).1
  refine (hseq (D + 1) (fun k W => I k W ∧ W.heap[D + 1]? = some (.loop (R .ready none)) ∧ W.heap[D]? = some (.deferred (some [])))
    (fun k W => ∃ c, Ix c k W ∧ W.heap[D + 1]? = some (.loop (R .done (some c))) ∧ W.heap[D]? = some (.deferred (some []))) V ?_ ?_
    ⟨hI 0 w V (Nat.le_of_eq hD) h0 (But.of_below bV (by omega)), lV, dV⟩ (hSt 0 w V hs0 bV)).mono ?_
  · -- the iterator's own steps
    rintro k A B ⟨hi, hl, hd⟩ hAB
    have hs := szb hl
    exact ⟨hI k A B (by omega) hi (hAB.mono (by omega)), (hAB.block (by omega) (by omega)).trans hl, (hAB.block (by omega) (by omega)).trans hd⟩
  · -- a round
    rintro k W ⟨hi, hl, hd⟩ hst hk
    have hs := szb hl
    have hy := run_yield (P := P) (args := encs k) hl (by rw [hR]; exact hps k)
    rw [hR] at hy
    refine ⟨fn, _, assign, body, hy, roundIn_of_wpIn hfn (hassign _ k W _ ⟨_, run_beginRound hl (by rw [hR]), ?_⟩)⟩
    obtain ⟨W2, hW2⟩ : ∃ W2, W.putObj (D + 1) (.loop { R .ready none with state := .busy }) = W2 := ⟨_, rfl⟩
    have b2 : Below D W W2 := by rw [← hW2]; exact putObj_below W _ (by omega)
    have l2 : W2.heap[D + 1]? = some (.loop { R .ready none with state := .busy }) := by rw [← hW2]; exact World.putObj_heap_same hs
    have d2 : W2.heap[D]? = some (.deferred (some [])) := by rw [← hW2]; exact (World.putObj_heap_other (by omega)).trans hd
    rw [hW2]
    have s2 := b2.size
    refine wpIn_mono (hbody _ k W2 (by omega) (hI k W W2 (by omega) hi (But.of_below b2 (by omega))) (hSt _ W W2 hst b2) hk) ?_
    -- the round's end, whatever way it is left
    have fin : ∀ (j : Option Code) (W3 : World), KeepsOthers W2 W3 → ∃ W4, W4 = W3.putObj (D + 1) (.loop (R (if j.isNone then .ready else .done) j)) ∧ (Instr.endRound (D + 1) j).run P W3 = .ok (.bool j.isNone) W4 ∧
        Below D W3 W4 ∧ D + 1 < W3.heap.size ∧ W4.heap[D + 1]? = some (.loop (R (if j.isNone then .ready else .done) j)) ∧ W4.heap[D]? = some (.deferred (some [])) := fun j W3 hk3 => by
      have l3 := hk3.same _ _ l2 rfl
      have s3 := (Array.getElem?_eq_some_iff.1 l3).1
      have he := run_endRound (P := P) j l3
      refine ⟨_, rfl, ?_, putObj_below W3 _ (by omega), s3, World.putObj_heap_same s3, (World.putObj_heap_other (by omega)).trans (hk3.same _ _ d2 rfl)⟩
      rw [hR] at he ⊢
      exact he
    rintro e a3 W3 hq
    cases e with
    | normal =>
      obtain ⟨hk3, hkp, hi3⟩ := hq
      obtain ⟨W4, e4, hr, b4, s3, l4, d4⟩ := fin none W3 hk3
      subst e4
      exact ⟨_, _, hr, .inl ⟨rfl, ⟨hI _ _ _ (by omega) hi3 (But.of_below b4 (by omega)), l4, d4⟩, hKt (hKt (hKb _ _ b2) hkp) (hKb _ _ b4)⟩⟩
    | ret =>
      obtain ⟨hk3, hi3⟩ := hq
      obtain ⟨W4, e4, hr, b4, s3, l4, d4⟩ := fin (some .ret) W3 hk3
      subst e4
      exact ⟨_, _, hr, .inr ⟨rfl, .ret, hIx _ _ _ _ hi3 b4, l4, d4⟩⟩
    | exit id =>
      obtain ⟨hk3, hi3⟩ := hq
      obtain ⟨W4, e4, hr, b4, s3, l4, d4⟩ := fin (some (.exit id)) W3 hk3
      subst e4
      exact ⟨_, _, hr, .inr ⟨rfl, .exit id, hIx _ _ _ _ hi3 b4, l4, d4⟩⟩
    | goto t =>
      obtain ⟨hk3, hi3⟩ := hq
      obtain ⟨W4, e4, hr, b4, s3, l4, d4⟩ := fin (some (.goto t)) W3 hk3
      subst e4
      exact ⟨_, _, hr, .inr ⟨rfl, .goto t, hIx _ _ _ _ hi3 b4, l4, d4⟩⟩
    | panic ch => exact hq.elim
    | outgrown => exact hq.elim
  · -- behind the iterator
    rintro e W2 ⟨⟨v, rfl⟩, (⟨⟨hi, hl, hd⟩, hst⟩ | ⟨k, hk, c, hi, hl, hd⟩)⟩
    · have hs := szb hl
      have he := run_endLoop (P := P) hl (by rw [hR]; simp)
      rw [hR] at he
      have b4 : ∀ o, Below D W2 (W2.putObj (D + 1) o) := fun o => putObj_below W2 o (by omega)
      exact ⟨none, _, he, hdone D _ (Nat.le_refl _) (hI _ _ _ (by omega) hi (But.of_below (b4 _) (by omega))) (hSt _ _ _ hst (b4 _)) ((World.putObj_heap_other (by omega)).trans hd)⟩
    · have he := run_endLoop (P := P) hl (by rw [hR]; simp)
      rw [hR] at he
      have b4 : ∀ o, Below D W2 (W2.putObj (D + 1) o) := fun o => putObj_below W2 o (by omega)
      exact ⟨some c, _, he, hstop D c k _ (Nat.le_refl _) hk (hIx c _ _ _ hi (b4 _)) ((World.putObj_heap_other (by omega)).trans hd)⟩

/-! ### two results that lie in boxes -/
theorem run_loadVar_one {P : Program} {w : World} {ty : TypeId} {d : TypeDesc} {a : Addr} {v : Value} (hu : P.underlying ty = some d) (hd : (match d with | .struct _ | .array _ _ => true | _ => false) = false) (h : w.cell? a = some v) :
    (loadVar ty a).run P w = .ok v w := by
  have hagg : (isAgg ty).run P w = .ok false w := by
    unfold isAgg
    rw [Sem.run_bind, run_underlying hu w]
    cases d <;> simp_all
  simp [loadVar, Sem.run_bind, hagg, run_load, h]
theorem results_cell2 {P : Program} {fn : Func} {p u : Tmp} {t t' : TypeId} {d d' : TypeDesc} {a b : Addr} {x y : Value} (tmps : Array Value) (w : World) (h : fn.results = #[.cell p t, .cell u t'])
    (hp : tmps.getD p undef = .pointer (some a)) (hu : tmps.getD u undef = .pointer (some b)) (h1 : P.underlying t = some d) (h2 : P.underlying t' = some d')
    (k1 : (match d with | .struct _ | .array _ _ => true | _ => false) = false) (k2 : (match d' with | .struct _ | .array _ _ => true | _ => false) = false)
    (hx : w.cell? a = some x) (hy : w.cell? b = some y) : (results fn tmps).run P w = .ok (.tuple #[x, y]) w := by
  have hp' : tmps[p]?.getD undef = .pointer (some a) := by simpa using hp
  have hu' : tmps[u]?.getD undef = .pointer (some b) := by simpa using hu
  simp [results, h, hp', hu', asAddr, Sem.run_bind, Result.andThen, run_loadVar_one h1 k1 hx, run_loadVar_one h2 k2 hy]
end Go.Proofs.Ytagjecbgbpjobaa.Ds
