/-
  A range over a function whose body is told what holds of what it is handed (G); it goes on, or leaves by a jump.
-/
import Derived.Test.YtoielghmgjdknaaMem
import Derived.RangeFuncNested
import Derived.RangeFuncBound
import Derived.RangeFuncCalls
import Derived.RangeFuncLeaves
import Derived.RangeFuncFrom
namespace Go.Proofs.Ytoielghmgjdknaa
open Go.RowKit
set_option linter.unusedVariables false

/-- An iterator: at each round G holds of what it hands out (q: how many blocks there were when the last round ended); S holds of all that it has handed out, Sp of what it had handed out when a round said 'no more'. -/
def SeqTold {α : Type} (F : Fence) (n : Nat) (P : Program) (gf : Nat) (lb : Array Value) (encs : α → Array Value) (G : Nat → List α → α → World → Prop) (Kp : World → World → Prop) (S Sp : List α → Prop) (w0 : World) : Prop :=
  ∀ (l : Nat) (J : Nat → List α → World → Prop) (Jx : List α → World → Prop) (W : World), Below w0.heap.size w0 W → (∀ q pre A B, J q pre A → Below A.heap.size A B → J q pre B) → (∀ pre A B, Jx pre A → Below A.heap.size A B → Jx pre B) →
    (∀ q pre x W1, J q pre W1 → G q pre x W1 → YieldAt F (n - 1) P l (encs x) W1 fun e W' => (e = .returned (.bool true) ∧ J W'.heap.size (pre ++ [x]) W' ∧ Kp W1 W') ∨ (e = .returned (.bool false) ∧ Jx (pre ++ [x]) W')) →
    J W.heap.size [] W → CallsIn F n P gf (#[.func (.yield l) #[] #[]] ++ lb) W fun e W' => (∃ v, e = .returned v) ∧ ((∃ xs q, S xs ∧ J q xs W') ∨ (∃ pre, Sp pre ∧ Jx pre W'))

/-- How the body of a round may be left. -/
def toldPost {α : Type} (Kp : World → World → Prop) (I : Nat → List α → World → Prop) (Ix : Code → List α → World → Prop) (xs : List α) (W : World) : Exit → Act → World → Prop
  | .normal, _, W' => KeepsOthers W W' ∧ Kp W W' ∧ I W'.heap.size xs W'
  | .ret, _, W' => KeepsOthers W W' ∧ Ix .ret xs W'
  | .exit id, _, W' => KeepsOthers W W' ∧ Ix (.exit id) xs W'
  | .goto t, _, W' => KeepsOthers W W' ∧ Ix (.goto t) xs W'
  | .panic _, _, _ => False
  | .outgrown, _, _ => False

/-- What the caller says of worlds survives new memory, and a turn of the loop's own record (block l, that is no cells). -/
structure Stays {β : Type} (B : Nat) (I : β → World → Prop) : Prop where
  more : ∀ s A C, I s A → Below A.heap.size A C → I s C
  turn : ∀ s A (l : Nat) (o o' : Obj), I s A → B ≤ l → A.heap[l]? = some o → o.isCells = false → I s (A.putObj l o')

section
variable {F : Fence} {n : Nat} {P : Program} {α : Type} {g : Operand} {ps : Array Tmp} {assign body : Code} {Q : Exit → Act → World → Prop} {a : Act} {w w0 : World} {gf : Nat} {lb : Array Value}
  {encs : α → Array Value} {G : Nat → List α → α → World → Prop} {Kp : World → World → Prop} {S Sp : List α → Prop}
set_option maxHeartbeats 400000 in
theorem range_told (hro : F.round = none) (h1 : 1 ≤ n) (hg : a.eval g = .func (.func gf) #[] lb) (hFg : F.fn gf) (eg : ∀ args w, (callFunc gf args).run P w = .ok (.enter gf args) w)
    (hseq : SeqTold F (n - 1) P gf lb encs G Kp S Sp w0) (hb0 : Below w0.heap.size w0 w) (hps : ∀ x, (encs x).size = ps.size)
    (hKt : ∀ {A B C : World}, Kp A B → Kp B C → Kp A C) (hKb : ∀ (W : World) (l : Nat) (o o' : Obj), w.heap.size ≤ l → W.heap[l]? = some o → o.isCells = false → Kp W (W.putObj l o'))
    (I : Nat → List α → World → Prop) (Ix : Code → List α → World → Prop) (hI : ∀ q, Stays w.heap.size (I q)) (hIx : ∀ c, Stays w.heap.size (Ix c)) (hIq : ∀ q q' pre W, I q pre W → q ≤ q' → q' ≤ W.heap.size → I q' pre W) (hG : ∀ q pre x, Stays w.heap.size (fun (_ : Unit) W => G q pre x W)) (h0 : I w.heap.size [] w) (a1 : α → Act)
    (hassign : ∀ (l : Nat) (x : α) (W : World) (K : Act → World → Prop), K (a1 x) W →
      assign.wpIn (F.inRound l) (n - 1 - 1) P (Exit.then K (fun _ _ _ => False)) { tmps := (ps.zip (encs x)).foldl (fun t (p, v) => t.setIfInBounds p v) a.tmps, defers := [] } W)
    (hbody : ∀ (l q : Nat) (pre : List α) (x : α) (W : World), w.heap.size < l → (∃ o, W.heap[l]? = some o ∧ o.isCells = false) → (∃ o, W.heap[w.heap.size]? = some o ∧ o.isCells = false) → I q pre W → G q pre x W →
      body.wpIn (F.inRound l) (n - 1 - 1) P (toldPost Kp I Ix (pre ++ [x]) W) (a1 x) W)
    (hdone : ∀ (xs : List α) (q : Nat) (W : World), S xs → I q xs W → W.heap[w.heap.size]? = some (.deferred (some [])) → Q .normal { a with defers := { target := .collected w.heap.size, args := #[] } :: a.defers } W)
    (hstop : ∀ (c : Code) (pre : List α) (W : World), Sp pre → Ix c pre W → W.heap[w.heap.size]? = some (.deferred (some [])) → c.wpIn F n P Q { a with defers := { target := .collected w.heap.size, args := #[] } :: a.defers } W) :
    (Code.rangeFunc g ps assign body).wpIn F n P Q a w := by
  refine wpIn_rangeFunc ?_
  intro fn hfn
  rw [hro]
  have henter := run_enterLoop_outer (P := P) (w := w) fn a.tmps ps assign body
  obtain ⟨r0, hr0⟩ : ∃ r0 : Loop, ({ state := .ready, pending := none, fn := fn, tmps := a.tmps, params := ps, assign := assign, body := body, defers := w.heap.size } : Loop) = r0 := ⟨_, rfl⟩
  have f1 : r0.state = .ready := by rw [← hr0]
  have f2 : r0.pending = none := by rw [← hr0]
  have f3 : r0.fn = fn := by rw [← hr0]
  have f4 : r0.tmps = a.tmps := by rw [← hr0]
  have f5 : r0.params = ps := by rw [← hr0]
  have f6 : r0.assign = assign := by rw [← hr0]
  have f7 : r0.body = body := by rw [← hr0]
  have f8 : ({ r0 with state := .busy, pending := none } : Loop) = { r0 with state := .busy } := by rw [← hr0]
  have f9 : ({ ({ r0 with state := .busy } : Loop) with state := .ready, pending := none } : Loop) = r0 := by rw [← hr0]
  have f10 : ∀ c : Code, ({ ({ r0 with state := .busy } : Loop) with state := .done, pending := some c } : Loop) = { r0 with state := .done, pending := some c } := fun c => by rw [← hr0]
  rw [hr0] at henter
  obtain ⟨W1, hW1⟩ : ∃ W1, (w.alloc (.deferred (some []))).alloc (.loop r0) = W1 := ⟨_, rfl⟩
  have hrec : W1.heap[w.heap.size + 1]? = some (.loop r0) := by
    rw [← hW1]
    have h := World.alloc_heap_new (w.alloc (.deferred (some []))) (.loop r0)
    rwa [World.size_alloc] at h
  have hdef : W1.heap[w.heap.size]? = some (.deferred (some [])) := by
    rw [← hW1]
    exact (Below.heap_alloc _ _ _ (by simp)).trans (World.alloc_heap_new w _)
  have hbW : Below w.heap.size w W1 := by rw [← hW1]; exact ((Below.refl _ w).alloc (Nat.le_refl _) _).alloc (by simp) _
  rw [hW1] at henter
  clear hr0 hW1
  have hclose : ∀ q pre A B, (I q pre A ∧ A.heap[w.heap.size + 1]? = some (.loop r0) ∧ A.heap[w.heap.size]? = some (.deferred (some []))) → Below A.heap.size A B → (I q pre B ∧ B.heap[w.heap.size + 1]? = some (.loop r0) ∧ B.heap[w.heap.size]? = some (.deferred (some []))) := by
    rintro q pre A B ⟨q1, q2, q3⟩ hb
    exact ⟨(hI q).more _ _ _ q1 hb, (hb.block _ (Array.getElem?_eq_some_iff.1 q2).1).trans q2, (hb.block _ (Array.getElem?_eq_some_iff.1 q3).1).trans q3⟩
  have hround : ∀ q pre x W, (I q pre W ∧ W.heap[w.heap.size + 1]? = some (.loop r0) ∧ W.heap[w.heap.size]? = some (.deferred (some []))) → G q pre x W →
      YieldAt F (n - 1 - 1) P (w.heap.size + 1) (encs x) W fun e W' => (e = .returned (.bool true) ∧ (I W'.heap.size (pre ++ [x]) W' ∧ W'.heap[w.heap.size + 1]? = some (.loop r0) ∧ W'.heap[w.heap.size]? = some (.deferred (some []))) ∧ Kp W W') ∨
        (e = .returned (.bool false) ∧ ∃ c, Ix c (pre ++ [x]) W' ∧ W'.heap[w.heap.size + 1]? = some (.loop { r0 with state := .done, pending := some c }) ∧ W'.heap[w.heap.size]? = some (.deferred (some []))) := by
    rintro q pre x W ⟨q1, q2, q3⟩ hgx
    have hlt := (Array.getElem?_eq_some_iff.1 q2).1
    have hy := run_yield (P := P) (args := encs x) q2 (by rw [f5]; exact hps x)
    rw [f3, f4, f5, f6, f7] at hy
    refine ⟨_, _, _, _, hy, ?_⟩
    refine roundIn_of_wpIn hfn (hassign _ x W _ ⟨_, run_beginRound q2 f1, ?_⟩)
    obtain ⟨W2, hW2⟩ : ∃ W2, W.putObj (w.heap.size + 1) (.loop { r0 with state := .busy }) = W2 := ⟨_, rfl⟩
    have k2 : W2.heap[w.heap.size + 1]? = some (.loop { r0 with state := .busy }) := by rw [← hW2]; exact World.putObj_heap_same hlt
    have k3 : W2.heap[w.heap.size]? = some (.deferred (some [])) := by rw [← hW2]; exact (World.putObj_heap_other (by omega)).trans q3
    have kI : I q pre W2 := by rw [← hW2]; exact (hI q).turn _ _ _ _ _ q1 (by omega) q2 rfl
    have kG : G q pre x W2 := by rw [← hW2]; exact (hG q pre x).turn () _ _ _ _ hgx (by omega) q2 rfl
    have kK : Kp W W2 := by rw [← hW2]; exact hKb _ _ _ _ (by omega) q2 rfl
    rw [hW2]
    refine wpIn_mono (hbody _ q pre x W2 (by omega) ⟨_, k2, rfl⟩ ⟨_, k3, rfl⟩ kI kG) ?_
    have hleft : ∀ (c : Code) (W3 : World), KeepsOthers W2 W3 → Ix c (pre ++ [x]) W3 → ∃ v w', (Instr.endRound (w.heap.size + 1) (some c)).run P W3 = .ok v w' ∧ (v = .bool false ∧ ∃ c, Ix c (pre ++ [x]) w' ∧ w'.heap[w.heap.size + 1]? = some (.loop { r0 with state := .done, pending := some c }) ∧ w'.heap[w.heap.size]? = some (.deferred (some []))) := by
      intro c W3 hk hi
      have m2 := hk.same _ _ k2 rfl
      have m3 := hk.same _ _ k3 rfl
      have hend := run_endRound (P := P) (some c) m2
      have e9 : (.loop ({ ({ r0 with state := .busy } : Loop) with state := if (some c : Option Code).isNone then .ready else .done, pending := some c } : Loop) : Obj) = .loop { r0 with state := .done, pending := some c } := congrArg Obj.loop (f10 c)
      rw [e9] at hend
      exact ⟨_, _, hend, rfl, c, (hIx c).turn _ _ _ _ _ hi (by omega) m2 rfl, World.putObj_heap_same (Array.getElem?_eq_some_iff.1 m2).1, (World.putObj_heap_other (by omega)).trans m3⟩
    rintro e a3 W3 hpost
    cases e with
    | normal =>
      obtain ⟨hk, hp, hi⟩ := hpost
      have m2 := hk.same _ _ k2 rfl
      have m3 := hk.same _ _ k3 rfl
      have hend := run_endRound (P := P) none m2
      have e9 : (.loop ({ ({ r0 with state := .busy } : Loop) with state := if (none : Option Code).isNone then .ready else .done, pending := none } : Loop) : Obj) = .loop r0 := congrArg Obj.loop f9
      rw [e9] at hend
      exact ⟨_, _, hend, .inl ⟨rfl, ⟨by rw [World.putObj_size]; exact (hI _).turn _ _ _ _ _ hi (by omega) m2 rfl, World.putObj_heap_same (Array.getElem?_eq_some_iff.1 m2).1, (World.putObj_heap_other (by omega)).trans m3⟩, hKt (hKt kK hp) (hKb _ _ _ _ (by omega) m2 rfl)⟩⟩
    | ret =>
      obtain ⟨v, w', h1, rfl, h2⟩ := hleft _ _ hpost.1 hpost.2
      exact ⟨_, w', h1, .inr ⟨rfl, h2⟩⟩
    | exit id =>
      obtain ⟨v, w', h1, rfl, h2⟩ := hleft _ _ hpost.1 hpost.2
      exact ⟨_, w', h1, .inr ⟨rfl, h2⟩⟩
    | goto t =>
      obtain ⟨v, w', h1, rfl, h2⟩ := hleft _ _ hpost.1 hpost.2
      exact ⟨_, w', h1, .inr ⟨rfl, h2⟩⟩
    | panic _ => exact hpost.elim
    | outgrown => exact hpost.elim
  have hcall : CallsIn F (n - 1) P gf (#[.func (.yield (w.heap.size + 1)) #[] #[]] ++ lb) W1 (rangePost F n P (w.heap.size + 1) Q { a with defers := [{ target := .collected w.heap.size, args := #[] }] ++ a.defers }) := by
    have hcloseX : ∀ pre A B, (∃ c, Ix c pre A ∧ A.heap[w.heap.size + 1]? = some (.loop { r0 with state := .done, pending := some c }) ∧ A.heap[w.heap.size]? = some (.deferred (some []))) → Below A.heap.size A B → (∃ c, Ix c pre B ∧ B.heap[w.heap.size + 1]? = some (.loop { r0 with state := .done, pending := some c }) ∧ B.heap[w.heap.size]? = some (.deferred (some []))) := by
      rintro pre A B ⟨c, q1, q2, q3⟩ hb
      exact ⟨c, (hIx c).more _ _ _ q1 hb, (hb.block _ (Array.getElem?_eq_some_iff.1 q2).1).trans q2, (hb.block _ (Array.getElem?_eq_some_iff.1 q3).1).trans q3⟩
    refine (hseq (w.heap.size + 1) (fun q pre W => I q pre W ∧ W.heap[w.heap.size + 1]? = some (.loop r0) ∧ W.heap[w.heap.size]? = some (.deferred (some [])))
      (fun pre W => ∃ c, Ix c pre W ∧ W.heap[w.heap.size + 1]? = some (.loop { r0 with state := .done, pending := some c }) ∧ W.heap[w.heap.size]? = some (.deferred (some [])))
      W1 (hb0.trans (hbW.mono hb0.size)) hclose hcloseX hround ⟨hIq _ _ _ _ ((hI _).more _ _ _ h0 hbW) hbW.size (Nat.le_refl _), hrec, hdef⟩).mono ?_
    rintro e W2 ⟨⟨v, rfl⟩, (⟨xs, q, hS, q1, q2, q3⟩ | ⟨pre, hSp, c, q1, q2, q3⟩)⟩
    · have hend := run_endLoop (P := P) q2 (by rw [f1]; decide)
      rw [f2] at hend
      exact ⟨none, _, hend, hdone xs q _ hS ((hI q).turn _ _ _ _ _ q1 (by omega) q2 rfl) ((World.putObj_heap_other (by omega)).trans q3)⟩
    · have hend := run_endLoop (P := P) q2 (by simp)
      exact ⟨some c, _, hend, hstop c pre _ hSp ((hIx c).turn _ _ _ _ _ q1 (by omega) q2 rfl) ((World.putObj_heap_other (by omega)).trans q3)⟩
  refine ⟨w.heap.size + 1, [{ target := .collected w.heap.size, args := #[] }], W1, { target := .fn (.func gf) lb, args := #[.func (.yield (w.heap.size + 1)) #[] #[]] }, W1, gf, #[.func (.yield (w.heap.size + 1)) #[] #[]] ++ lb, W1, ?_, ?_, ?_, ?_, ?_, ?_⟩
  · exact henter
  · simp only [resolve, hg]
    simp [go_sem]
  · intro f' hf'
    simp [Target.leads] at hf'
    subst hf'
    exact hFg
  · show (invoke (.fn (.func gf) lb) #[.func (.yield (w.heap.size + 1)) #[] #[]]).run P W1 = _
    unfold invoke
    exact eg _ _
  · intro _; exact h1
  · exact hcall
end
end Go.Proofs.Ytoielghmgjdknaa
