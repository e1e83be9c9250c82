/-
  A parameter that is a slice of slices of bytes.
-/
import Derived.Test.YtoielghmgjdknaaRecs
import Derived.Test.YtoielghmgjdknaaRef12b
namespace Go.Proofs.Ytoielghmgjdknaa
open Go.ChangeShapes Go.WideShapes Go.RowKit Go.Deep
set_option linter.unusedVariables false

theorem open_cells {H : Type} {enc : TypeId × Value → H} {P : Program} {w : World} {base : Nat} {spare : Nat → Bool} {held : Bool} {t u : TypeId} {a : Option Addr} {len cap : Nat} {d : DataW H} {q : List MemPlace}
    (ht : P.underlying t = some (.slice u)) (hC : P.cellsOf u = 1) (p : World → Value → Prop)
    (hf : ∀ fuel v x, DataW.trod enc P w base spare held fuel u [v] = some x → p w v)
    (hd : DataW.Trod enc P w base spare held t (.slice a len cap) d q) : IsRecs [p] w a len cap := by
  obtain ⟨fuel, hf0⟩ := hd
  rcases Deep.open_slice ht hf0 with ⟨hcs, _⟩ | ⟨b, l, c, m, fn, D, Pl, hcs, _, hl, hm, hmm, _, hi⟩
  · simp [Value.cells] at hcs
    obtain ⟨rfl, rfl, rfl⟩ := hcs
    exact ⟨Nat.le_refl _, Nat.zero_le _, .inl rfl⟩
  · simp [Value.cells] at hcs
    obtain ⟨rfl, rfl, rfl⟩ := hcs
    have hlm : len ≤ m := by rw [hmm]; split <;> omega
    refine ⟨hl, hm, ?_⟩
    rcases Nat.eq_zero_or_pos len with hz | hz
    · exact .inl hz
    have hrow : ∀ i, i < len → ∃ v : Value, p w v ∧ w.cell? (b.add i) = some v := by
      intro i hil
      obtain ⟨cs', hc, htr⟩ := hi i (by omega)
      rw [hC] at hc
      obtain ⟨_, hcl, hat⟩ := World.cells?_some hc
      match cs', hcl with
      | [v], _ =>
        have h0 := hat 0 (by omega)
        refine ⟨v, hf _ v _ htr, ?_⟩
        have e : (b.add (i * 1)).add 0 = b.add i := by rw [Nat.mul_one]; unfold Addr.add; simp
        rw [e] at h0
        exact h0
    have had : ∀ (o q : Nat) (bk : Nat), ({ block := bk, off := o, spot := none } : Addr).add q = ⟨bk, o + q, none⟩ := fun o q bk => by unfold Addr.add; split <;> simp_all
    obtain ⟨bk, off, spot⟩ := b
    obtain ⟨v0, _, hc0⟩ := hrow 0 hz
    have hspot : spot = none := by simpa [Addr.add] using World.cell?_spot hc0
    subst hspot
    refine .inr ⟨bk, off, rfl, ?_, fun i hil => ?_⟩
    · rw [had] at hc0
      exact World.block_lt_of_cell? w _ hc0
    · obtain ⟨v, h1, h2⟩ := hrow i hil
      rw [had] at h2
      refine ⟨[v], rfl, fun j q' v' hp hv => ?_, fun j v' hv => ?_⟩
      · match j, hp, hv with
        | 0, hp, hv =>
          obtain rfl := Option.some.inj hp
          obtain rfl := Option.some.inj hv
          exact h1
      · match j, hv with
        | 0, hv =>
          obtain rfl := Option.some.inj hv
          have e : off + (i * [p].length + 0) = off + i := by simp
          rw [e]
          exact h2
/-- Such a parameter reads as lists of bytes. -/
theorem lists_of {w : World} {a : Option Addr} {len cap : Nat} (h : IsRecs [isRowF .u8] w a len cap) : ∃ ls : List (List UInt8), ls.length = len ∧ Ls w w.heap.size a ls := by
  obtain ⟨_, _, h0 | ⟨b, o, rfl, hb, hr⟩⟩ := h
  · exact ⟨[], by rw [h0]; rfl, [], .inl rfl, Vl.nil _ _⟩
  have key : ∀ n, n ≤ len → ∃ (vs : List Value) (ls : List (List UInt8)), vs.length = n ∧ Vl w w.heap.size vs ls ∧ ∀ (j : Nat) (h : j < vs.length), w.cell? ⟨b, o + j, none⟩ = some vs[j] := by
    intro n
    induction n with
    | zero => exact fun _ => ⟨[], [], rfl, Vl.nil _ _, fun j h => by simp at h⟩
    | succ n ih =>
      intro hn
      obtain ⟨vs, ls, h1, h2, h3⟩ := ih (by omega)
      obtain ⟨us, u1, u2, u3⟩ := hr n (by omega)
      match us, u1 with
      | [v], _ =>
        obtain ⟨a', l', c', zs, rfl, hrow⟩ := u2 0 _ v rfl rfl
        have hc := u3 0 _ rfl
        obtain ⟨bs, e1, e2, e3, e4⟩ := hrow.bs
        refine ⟨vs ++ [.slice a' l' c'], ls ++ [bs], by rw [List.length_append, h1]; rfl, h2.snoc ⟨a', l', c', rfl, Lib.hid e1, e2, e3, e4⟩, fun j hj => ?_⟩
        by_cases hjn : j < vs.length
        · rw [List.getElem_append_left hjn]
          exact h3 j hjn
        · have : j = vs.length := by
            rw [List.length_append] at hj
            simp at hj
            omega
          subst this
          rw [List.getElem_append_right (Nat.le_refl _)]
          simp only [Nat.sub_self, List.getElem_cons_zero]
          rw [h1]
          simpa using hc
  obtain ⟨vs, ls, h1, h2, h3⟩ := key len (Nat.le_refl _)
  exact ⟨ls, by rw [← h2.1, h1], vs, .inr ⟨b, o, rfl, hb, h3⟩, h2⟩
end Go.Proofs.Ytoielghmgjdknaa
