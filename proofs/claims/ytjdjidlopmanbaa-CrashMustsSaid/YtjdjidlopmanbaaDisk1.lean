/-
  Files in memory; what the calls of a disk are to do, whatever its memory looks like; a step.
-/
import Derived.Test.YtjdjidlopmanbaaDiskN
namespace Go.Proofs.Ytjdjidlopmanbaa
open Go.RowKit
set_option linter.unusedVariables false

/-- What a call does to memory: what the disk has (O) may turn, and new memory come to it; all else stays. -/
structure Eff (O O' : Nat → Prop) (w w' : World) : Prop where
  os : w'.os = w.os
  tape : w'.tape = w.tape
  output : w'.output = w.output
  size : w.heap.size ≤ w'.heap.size
  block : ∀ b, b < w.heap.size → ¬ O b → w'.heap[b]? = w.heap[b]?
  new : ∀ b, O' b → O b ∨ w.heap.size ≤ b
theorem Eff.below {O O' : Nat → Prop} {w w' : World} (h : Eff O O' w w') {B : Nat} (hB : B ≤ w.heap.size) (hO : ∀ b, O b → B ≤ b) : Below B w w' :=
  ⟨h.os, h.tape, h.output, h.size, fun k hk => h.block k (by omega) (fun ho => by have := hO k ho; omega)⟩
theorem Eff.trans {O O' O'' : Nat → Prop} {w w' w'' : World} (h : Eff O O' w w') (h' : Eff O' O'' w' w'') : Eff O O'' w w'' :=
  ⟨h'.os.trans h.os, h'.tape.trans h.tape, h'.output.trans h.output, Nat.le_trans h.size h'.size,
    fun b hb ho => (h'.block b (Nat.lt_of_lt_of_le hb h.size) (fun ho' => by rcases h.new b ho' with h1 | h1; exact ho h1; omega)).trans (h.block b hb ho),
    fun b hb => by rcases h'.new b hb with h1 | h1; exact h.new b h1; exact .inr (Nat.le_trans h.size h1)⟩
theorem Eff.refl (O : Nat → Prop) (w : World) : Eff O O w w := ⟨rfl, rfl, rfl, Nat.le_refl _, fun _ _ _ => rfl, fun _ h => .inl h⟩
/-- A call that leaves all as it was. -/
theorem Eff.of_below {O : Nat → Prop} {w w' : World} (h : Below w.heap.size w w') : Eff O O w w' := ⟨h.os, h.tape, h.output, h.size, fun b hb _ => h.block b hb, fun _ h => .inl h⟩
theorem Eff.floor {O O' : Nat → Prop} {w w' : World} (h : Eff O O' w w') {B : Nat} (hB : B ≤ w.heap.size) (hO : ∀ b, O b → B ≤ b) : ∀ b, O' b → B ≤ b := fun b hb => by
  rcases h.new b hb with h1 | h1
  · exact hO b h1
  · omega

/-- A file, as its cells tell it. -/
structure Fil where
  name : ByteArray
  A : Option Addr
  n : Nat
  c : Nat
  data : List UInt8
  sure : Nat
def Fil.cells (f : Fil) : List Value := [.string f.name, .slice f.A f.n f.c, .int .i64 (f.sure : Int)]
def Fil.pf (f : Fil) : PF := ⟨bl f.name, f.data, f.sure⟩
structure FilOk (w : World) (Q : Nat → Prop) (f : Fil) : Prop where
  len : f.data.length = f.n
  cap : f.n ≤ f.c
  max : f.c ≤ maxLen
  data : f.data = [] ∨ ∃ b o, f.A = some ⟨b, o, none⟩ ∧ b < w.heap.size ∧ Q b ∧ ∀ (j : Nat) (h : j < (f.data.map bv).length), w.cell? ⟨b, o + j, none⟩ = some (f.data.map bv)[j]
theorem FilOk.bs {w : World} {Q : Nat → Prop} {f : Fil} (h : FilOk w Q f) : Bs w w.heap.size f.A f.data := by
  rcases h.data with h | ⟨b, o, e, hb, _, hc⟩
  · exact .inl (by rw [h]; rfl)
  · exact .inr ⟨b, o, e, hb, hc⟩
/-- These files lie in a slice, in blocks of which Q holds. -/
def IsFiles (w : World) (Q : Nat → Prop) (a : Option Addr) (l : List Fil) : Prop :=
  (∀ f ∈ l, FilOk w Q f) ∧ (l = [] ∨ ∃ b o, a = some ⟨b, o, none⟩ ∧ b < w.heap.size ∧ Q b ∧
    ∀ (i : Nat) (h : i < l.length) (j : Nat) v, l[i].cells[j]? = some v → w.cell? ⟨b, o + (i * 3 + j), none⟩ = some v)
theorem IsFiles.keep {w w' : World} {Q : Nat → Prop} {a : Option Addr} {l : List Fil} (h : IsFiles w Q a l) (hb : ∀ b, b < w.heap.size → Q b → w'.heap[b]? = w.heap[b]?) (hs : w.heap.size ≤ w'.heap.size) : IsFiles w' Q a l := by
  obtain ⟨h1, h2⟩ := h
  refine ⟨fun f hf => ?_, ?_⟩
  · have hh := h1 f hf
    refine ⟨hh.len, hh.cap, hh.max, ?_⟩
    rcases hh.data with h | ⟨b, o, e, hlt, hq, hc⟩
    · exact .inl h
    · exact .inr ⟨b, o, e, Nat.lt_of_lt_of_le hlt hs, hq, fun j hj => (World.cell?_of_block (hb b hlt hq)).trans (hc j hj)⟩
  · rcases h2 with h | ⟨b, o, e, hlt, hq, hc⟩
    · exact .inl h
    · exact .inr ⟨b, o, e, Nat.lt_of_lt_of_le hlt hs, hq, fun i hi j v hv => (World.cell?_of_block (hb b hlt hq)).trans (hc i hi j v hv)⟩
theorem IsFiles.imp {w : World} {Q Q' : Nat → Prop} {a : Option Addr} {l : List Fil} (h : IsFiles w Q a l) (hq : ∀ b, Q b → Q' b) : IsFiles w Q' a l := by
  obtain ⟨h1, h2⟩ := h
  refine ⟨fun f hf => ?_, ?_⟩
  · have hh := h1 f hf
    refine ⟨hh.len, hh.cap, hh.max, ?_⟩
    rcases hh.data with h | ⟨b, o, e, hlt, hq', hc⟩
    · exact .inl h
    · exact .inr ⟨b, o, e, hlt, hq _ hq', hc⟩
  · rcases h2 with h | ⟨b, o, e, hlt, hq', hc⟩
    · exact .inl h
    · exact .inr ⟨b, o, e, hlt, hq _ hq', hc⟩
theorem IsFiles.bound {w : World} {Q : Nat → Prop} {a : Option Addr} {l : List Fil} (h : IsFiles w Q a l) : IsFiles w (fun b => Q b ∧ b < w.heap.size) a l := by
  obtain ⟨h1, h2⟩ := h
  refine ⟨fun f hf => ?_, ?_⟩
  · have hh := h1 f hf
    refine ⟨hh.len, hh.cap, hh.max, ?_⟩
    rcases hh.data with h | ⟨b, o, e, hlt, hq', hc⟩
    · exact .inl h
    · exact .inr ⟨b, o, e, hlt, ⟨hq', hlt⟩, hc⟩
  · rcases h2 with h | ⟨b, o, e, hlt, hq', hc⟩
    · exact .inl h
    · exact .inr ⟨b, o, e, hlt, ⟨hq', hlt⟩, hc⟩
theorem IsFiles.below {w w' : World} {Q : Nat → Prop} {a : Option Addr} {l : List Fil} (h : IsFiles w Q a l) (hb : Below w.heap.size w w') : IsFiles w' Q a l :=
  h.keep (fun b hlt _ => hb.block b hlt) hb.size
theorem IsFiles.eff {w w' : World} {Q O O' : Nat → Prop} {a : Option Addr} {l : List Fil} (h : IsFiles w Q a l) (he : Eff O O' w w') (hq : ∀ b, Q b → b < w.heap.size → ¬ O b) : IsFiles w' Q a l :=
  h.keep (fun b hb hQ => he.block b hb (hq b hQ hb)) he.size

def newS (cap : Int) : DSt := ⟨[], if cap < 0 then 0 else cap, 0, false, 0, 0, false⟩
abbrev dptr (d : Nat) : Value := .pointer (some ⟨d, 0, none⟩)
/-- What a call answers, and leaves. -/
def RetD (IsD : World → (Nat → Prop) → Nat → DSt → Prop) (v : Value) (st : DSt) (d : Nat) (O : Nat → Prop) (w : World) (e : Ending) (w' : World) : Prop :=
  ∃ O', e = .returned v ∧ IsD w' O' d st ∧ Eff O O' w w'
/-- What the calls of a disk are to do. -/
structure DiskLaws (IsD : World → (Nat → Prop) → Nat → DSt → Prop) : Prop where
  lt : ∀ {w O d st b}, IsD w O d st → O b → b < w.heap.size
  keep : ∀ {w w' O d st}, IsD w O d st → (∀ b, O b → w'.heap[b]? = w.heap[b]?) → w.heap.size ≤ w'.heap.size → IsD w' O d st
  good : ∀ {w O d st}, IsD w O d st → GoodS st
  new : ∀ w (cap : Int), (Lit.int .i64 cap).wf = true → Calls Try.prog 10 #[.int .i64 cap] w fun e w' => ∃ d, RetD IsD (dptr d) (newS cap) d (fun _ => False) w e w'
  append : ∀ {w O d st} (nm : ByteArray) (A : Option Addr) (n c : Nat) (b : List UInt8), IsD w O d st → nm.size ≤ 65536 → b.length = n → n ≤ c → c ≤ maxLen → Bs w w.heap.size A b → sizeF st.files + n ≤ 1099511627776 →
    Calls Try.prog 38 #[dptr d, .string nm, .slice A n c] w (RetD IsD (.int .i64 (callS (appendS (bl nm) b) st).2) (callS (appendS (bl nm) b) st).1 d O w)
  sync : ∀ {w O d st} (nm : ByteArray), IsD w O d st → nm.size ≤ 65536 →
    Calls Try.prog 39 #[dptr d, .string nm] w (RetD IsD (.int .i64 (callS (syncS (bl nm)) st).2) (callS (syncS (bl nm)) st).1 d O w)
  rename : ∀ {w O d st} (nm to : ByteArray), IsD w O d st → nm.size ≤ 65536 → to.size ≤ 65536 →
    Calls Try.prog 40 #[dptr d, .string nm, .string to] w (RetD IsD (.int .i64 (callS (renameS (bl nm) (bl to)) st).2) (callS (renameS (bl nm) (bl to)) st).1 d O w)
  remove : ∀ {w O d st} (nm : ByteArray), IsD w O d st → nm.size ≤ 65536 →
    Calls Try.prog 41 #[dptr d, .string nm] w (RetD IsD (.int .i64 (callS (removeS (bl nm)) st).2) (callS (removeS (bl nm)) st).1 d O w)
  arm : ∀ {w O d st} (n keep : Int), IsD w O d st → (Lit.int .u64 n).wf = true → (Lit.int .i64 keep).wf = true →
    Calls Try.prog 11 #[dptr d, .int .u64 n, .int .i64 keep] w (RetD IsD (.tuple #[]) { st with armed := true, left := n.toNat, keep := keep } d O w)
  crash : ∀ {w O d st} (keep : Int), IsD w O d st → (Lit.int .i64 keep).wf = true →
    Calls Try.prog 21 #[dptr d, .int .i64 keep] w (RetD IsD (.tuple #[]) (crashS keep st) d O w)
  up : ∀ {w O d st}, IsD w O d st → Calls Try.prog 94 #[dptr d] w (RetD IsD (.tuple #[]) { st with down := false } d O w)
  down : ∀ {w O d st}, IsD w O d st → Calls Try.prog 17 #[dptr d] w fun e w' => e = .returned (.bool st.down) ∧ Below w.heap.size w w'
  files : ∀ {w O d st}, IsD w O d st → Calls Try.prog 16 #[dptr d] w fun e w' =>
    ∃ A c l, e = .returned (.slice A l.length c) ∧ IsFiles w' (fun b => w.heap.size ≤ b) A l ∧ l.length ≤ c ∧ c ≤ maxLen ∧ l.map Fil.pf = st.files ∧ Below w.heap.size w w'

theorem Eff.alloc (O : Nat → Prop) (w : World) (o : Obj) : Eff O O w (w.alloc o) := Eff.of_below ((Below.refl _ w).alloc (Nat.le_refl _) o)
theorem DiskLaws.alloc {IsD : World → (Nat → Prop) → Nat → DSt → Prop} (D : DiskLaws IsD) {w : World} {O : Nat → Prop} {d : Nat} {st : DSt} (h : IsD w O d st) (o : Obj) : IsD (w.alloc o) O d st :=
  D.keep h (fun b hb => Below.heap_alloc w o b (D.lt h hb)) (by show _ ≤ (w.heap.push o).size; simp)
theorem DiskLaws.eff {IsD : World → (Nat → Prop) → Nat → DSt → Prop} (D : DiskLaws IsD) {w w' : World} {O : Nat → Prop} {d : Nat} {st : DSt} (h : IsD w O d st) (hb : Below w.heap.size w w') : IsD w' O d st :=
  D.keep h (fun b hO => hb.block b (D.lt h hO)) hb.size
theorem RetD.of {IsD : World → (Nat → Prop) → Nat → DSt → Prop} {v v' : Value} {st st' : DSt} {d : Nat} {O O1 : Nat → Prop} {w w1 w' : World} (h : RetD IsD v st d O1 w1 (.returned v) w') (he : Eff O O1 w w1) (hs : st = st') (hv : v = v') :
    RetD IsD v' st' d O w (.returned v') w' := by
  obtain ⟨O', _, h1, h2⟩ := h
  subst hs hv
  exact ⟨O', rfl, h1, he.trans h2⟩

end Go.Proofs.Ytjdjidlopmanbaa
