/-
  Plain: digests of 32 bytes (SHA-256), over natural numbers.
-/
import Derived.Test.YtfcffafmcihamaaDoorLe
import Derived.KernelRfl
namespace Go.Proofs.YtfcffafmcihamaaDoor

/-- A number turned right. -/
def rotr (n x : Nat) : Nat := x / 2 ^ n ||| x * 2 ^ (32 - n) % 4294967296
def kC : List Nat := [1116352408, 1899447441, 3049323471, 3921009573, 961987163, 1508970993, 2453635748, 2870763221, 3624381080, 310598401, 607225278, 1426881987, 1925078388, 2162078206, 2614888103, 3248222580, 3835390401, 4022224774, 264347078, 604807628, 770255983, 1249150122, 1555081692, 1996064986, 2554220882, 2821834349, 2952996808, 3210313671, 3336571891, 3584528711, 113926993, 338241895, 666307205, 773529912, 1294757372, 1396182291, 1695183700, 1986661051, 2177026350, 2456956037, 2730485921, 2820302411, 3259730800, 3345764771, 3516065817, 3600352804, 4094571909, 275423344, 430227734, 506948616, 659060556, 883997877, 958139571, 1322822218, 1537002063, 1747873779, 1955562222, 2024104815, 2227730452, 2361852424, 2428436474, 2756734187, 3204031479, 3329325298]
def iv : List Nat := [1779033703, 3144134277, 1013904242, 2773480762, 1359893119, 2600822924, 528734635, 1541459225]

def byteAt (b : List UInt8) (i : Nat) : Nat := (b.getD i 0).toNat
def word (b : List UInt8) (i : Nat) : Nat := byteAt b (4 * i) * 16777216 + byteAt b (4 * i + 1) * 65536 + byteAt b (4 * i + 2) * 256 + byteAt b (4 * i + 3)
def sg0 (x : Nat) : Nat := rotr 7 x ^^^ rotr 18 x ^^^ x / 8
def sg1 (x : Nat) : Nat := rotr 17 x ^^^ rotr 19 x ^^^ x / 1024
def wnext (l : List Nat) (j : Nat) : Nat := (l.getD (j - 16) 0 + sg0 (l.getD (j - 15) 0) + l.getD (j - 7) 0 + sg1 (l.getD (j - 2) 0)) % 4294967296
/-- The first numbers of a block. -/
def sched (b : List UInt8) : Nat → List Nat
  | 0 => []
  | j + 1 => sched b j ++ [if j < 16 then word b j else wnext (sched b j) j]
def big1 (e : Nat) : Nat := rotr 6 e ^^^ rotr 11 e ^^^ rotr 25 e
def big0 (a : Nat) : Nat := rotr 2 a ^^^ rotr 13 a ^^^ rotr 22 a
def tN (e f g h k w : Nat) : Nat := (h + big1 e + ((e &&& f) ^^^ ((4294967295 - e) &&& g)) + k + w) % 4294967296
def uN (a b c : Nat) : Nat := (big0 a + (((a &&& b) ^^^ (a &&& c)) ^^^ (b &&& c))) % 4294967296
/-- One round. -/
def rnd (k w : Nat) : List Nat → List Nat
  | [a, b, c, d, e, f, g, h] => [(tN e f g h k w + uN a b c) % 4294967296, a, b, c, (d + tN e f g h k w) % 4294967296, e, f, g]
  | l => l
def rnds (w s : List Nat) : Nat → List Nat
  | 0 => s
  | j + 1 => rnd (kC.getD j 0) (w.getD j 0) (rnds w s j)
def addS (s v : List Nat) : List Nat := List.zipWith (fun x y => (x + y) % 4294967296) s v
def blockN (s : List Nat) (b : List UInt8) : List Nat := addS s (rnds (sched b 64) s 64)
/-- The state behind the first blocks of l. -/
def blks (s : List Nat) (l : List UInt8) : Nat → List Nat
  | 0 => s
  | j + 1 => blockN (blks s l j) ((l.drop (64 * j)).take 64)
/-- A number's bytes, the highest first. -/
def beB (k n : Nat) : List UInt8 := (leB k n).reverse
def digB (s : List Nat) : List UInt8 := (s.map (beB 4)).flatten
def zerosN (n : Nat) : Nat := (119 - n % 64) % 64
def padB (n : Nat) : List UInt8 := 128 :: (List.replicate (zerosN n) 0 ++ beB 8 (8 * n))
def shaN (l : List UInt8) : List UInt8 := digB (blks iv (l ++ padB l.length) ((l.length + 9 + zerosN l.length) / 64))

/-- A state: eight numbers of 32 bits. -/
def St (s : List Nat) : Prop := s.length = 8 ∧ ∀ x ∈ s, x < 4294967296

theorem St.form {s : List Nat} (h : St s) : ∃ a b c d e f g k, s = [a, b, c, d, e, f, g, k] ∧ a < 4294967296 ∧ b < 4294967296 ∧ c < 4294967296 ∧ d < 4294967296 ∧ e < 4294967296 ∧ f < 4294967296 ∧ g < 4294967296 ∧ k < 4294967296 := by
  obtain ⟨h1, h2⟩ := h
  match s, h1 with
  | [a, b, c, d, e, f, g, k], _ =>
    simp at h2
    exact ⟨a, b, c, d, e, f, g, k, rfl, h2⟩
theorem St.mk8 {a b c d e f g k : Nat} (h0 : a < 4294967296) (h1 : b < 4294967296) (h2 : c < 4294967296) (h3 : d < 4294967296) (h4 : e < 4294967296) (h5 : f < 4294967296) (h6 : g < 4294967296) (h7 : k < 4294967296) :
    St [a, b, c, d, e, f, g, k] := ⟨rfl, by simp [*]⟩
theorem st_iv : St iv := by unfold iv; exact St.mk8 (by omega) (by omega) (by omega) (by omega) (by omega) (by omega) (by omega) (by omega)
theorem tN_lt (e f g h k w : Nat) : tN e f g h k w < 4294967296 := Nat.mod_lt _ (by omega)
theorem uN_lt (a b c : Nat) : uN a b c < 4294967296 := Nat.mod_lt _ (by omega)
theorem St.rnd {s : List Nat} (h : St s) (k w : Nat) : St (rnd k w s) := by
  obtain ⟨a, b, c, d, e, f, g, k', rfl, h0, h1, h2, h3, h4, h5, h6, h7⟩ := h.form
  exact St.mk8 (Nat.mod_lt _ (by omega)) h0 h1 h2 (Nat.mod_lt _ (by omega)) h4 h5 h6
theorem St.rnds {s : List Nat} (h : St s) (w : List Nat) (j : Nat) : St (rnds w s j) := by
  induction j with
  | zero => exact h
  | succ j ih => exact ih.rnd _ _
theorem St.addS {s v : List Nat} (h : St s) (h' : St v) : St (addS s v) := by
  refine ⟨by simp [Proofs.YtfcffafmcihamaaDoor.addS, h.1, h'.1], fun x hx => ?_⟩
  obtain ⟨i, hi, rfl⟩ := List.mem_iff_getElem.1 hx
  simp only [Proofs.YtfcffafmcihamaaDoor.addS, List.getElem_zipWith]
  exact Nat.mod_lt _ (by omega)
theorem St.block {s : List Nat} (h : St s) (b : List UInt8) : St (blockN s b) := h.addS (h.rnds _ _)
theorem St.blks {s : List Nat} (h : St s) (l : List UInt8) (j : Nat) : St (blks s l j) := by
  induction j with
  | zero => exact h
  | succ j ih => exact ih.block _

@[simp] theorem sched_length (b : List UInt8) (j : Nat) : (sched b j).length = j := by
  induction j with
  | zero => rfl
  | succ j ih => simp [sched, ih]
theorem byteAt_lt (b : List UInt8) (i : Nat) : byteAt b i < 256 := UInt8.toNat_lt _
theorem word_lt (b : List UInt8) (i : Nat) : word b i < 4294967296 := by
  have h0 := byteAt_lt b (4 * i)
  have h1 := byteAt_lt b (4 * i + 1)
  have h2 := byteAt_lt b (4 * i + 2)
  have h3 := byteAt_lt b (4 * i + 3)
  unfold word
  omega
theorem sched_lt (b : List UInt8) (j : Nat) : ∀ x ∈ sched b j, x < 4294967296 := by
  induction j with
  | zero => simp [sched]
  | succ j ih =>
    intro x hx
    rw [sched, List.mem_append, List.mem_singleton] at hx
    rcases hx with hx | rfl
    · exact ih x hx
    · split
      · exact word_lt b j
      · exact Nat.mod_lt _ (by omega)
theorem getD_lt {l : List Nat} (h : ∀ x ∈ l, x < 4294967296) (i : Nat) : l.getD i 0 < 4294967296 := by
  rw [List.getD_eq_getElem?_getD]
  rcases hi : l[i]? with _ | x
  · simp
  · exact h x (List.mem_of_getElem? hi)
theorem kC_lt (i : Nat) : kC.getD i 0 < 4294967296 := getD_lt (by decide) i
theorem rotr_lt (n x : Nat) (hx : x < 4294967296) : rotr n x < 4294967296 :=
  Nat.or_lt_two_pow (n := 32) (Nat.lt_of_le_of_lt (Nat.div_le_self _ _) hx) (Nat.mod_lt _ (by decide))
/-- A later list begins with the elder one. -/
theorem sched_more (b : List UInt8) (j i : Nat) (hi : i < j) : (sched b (j + 1)).getD i 0 = (sched b j).getD i 0 := by
  rw [sched, List.getD_eq_getElem?_getD, List.getD_eq_getElem?_getD, List.getElem?_append_left (by simpa using hi)]
theorem sched_at (b : List UInt8) (j k i : Nat) (hi : i < j) (hk : j ≤ k) : (sched b k).getD i 0 = (sched b j).getD i 0 := by
  induction k with
  | zero => omega
  | succ k ih =>
    rcases Nat.lt_or_ge k j with h | h
    · rw [show k + 1 = j by omega]
    · rw [sched_more b k i (by omega), ih h]

theorem blks_add (s : List Nat) (l : List UInt8) (q r : Nat) : blks s l (q + r) = blks (blks s l q) (l.drop (64 * q)) r := by
  induction r with
  | zero => rfl
  | succ r ih =>
    rw [← Nat.add_assoc, blks, ih, blks, List.drop_drop, ← Nat.mul_add]
theorem blks_pre (s : List Nat) (l x : List UInt8) (q : Nat) (h : 64 * q ≤ l.length) : blks s (l ++ x) q = blks s l q := by
  induction q with
  | zero => rfl
  | succ q ih =>
    rw [blks, blks, ih (by omega), List.drop_append_of_le_length (by omega), List.take_append_of_le_length (by simp; omega)]
theorem blks_take (s : List Nat) (l : List UInt8) (q : Nat) (h : 64 * q ≤ l.length) : blks s (l.take (64 * q)) q = blks s l q := by
  have := blks_pre s (l.take (64 * q)) (l.drop (64 * q)) q (by simp; omega)
  rw [List.take_append_drop] at this
  exact this.symm
@[simp] theorem beB_length (k n : Nat) : (beB k n).length = k := by simp [beB]
theorem padB_length (n : Nat) : (padB n).length = 9 + zerosN n := by simp [padB]; omega
theorem zerosN_lt (n : Nat) : zerosN n < 64 := Nat.mod_lt _ (by omega)
theorem zerosN_mod (n : Nat) : (n + 9 + zerosN n) % 64 = 0 := by unfold zerosN; omega
/-- A digest: the whole blocks first, then the end with its pad. -/
theorem sha_two (l : List UInt8) (q : Nat) (hq : q = l.length / 64) :
    shaN l = digB (blks (blks iv (l.take (64 * q)) q) (l.drop (64 * q) ++ padB l.length) ((l.length - 64 * q + 9 + zerosN l.length) / 64)) := by
  have hl : 64 * q ≤ l.length := by omega
  unfold shaN
  rw [blks_take _ _ _ hl, ← blks_pre iv l (padB l.length) q hl, ← List.drop_append_of_le_length hl, ← blks_add]
  congr 2
  omega
theorem digB_length {s : List Nat} (h : St s) : (digB s).length = 32 := by
  obtain ⟨a, b, c, d, e, f, g, k, rfl, _⟩ := h.form
  simp [digB]
theorem shaN_length (l : List UInt8) : (shaN l).length = 32 := digB_length (st_iv.blks _ _)
end Go.Proofs.YtfcffafmcihamaaDoor
