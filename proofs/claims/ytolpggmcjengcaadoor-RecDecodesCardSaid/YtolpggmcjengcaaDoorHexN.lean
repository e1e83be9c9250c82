/-
  Plain: bytes of digits, and digits of bytes.
-/
import Derived.Test.YtolpggmcjengcaaDoorNum
import Derived.Laws.BitsAllLaws
import Derived.WalkKit
namespace Go.Proofs.YtolpggmcjengcaaDoor

def isDigit (r : Nat) : Bool := decide (48 ≤ r ∧ r ≤ 57)
def isHexd (r : Nat) : Bool := isDigit r || decide (97 ≤ r ∧ r ≤ 102)
def hexS : List UInt8 := [48, 49, 50, 51, 52, 53, 54, 55, 56, 57, 97, 98, 99, 100, 101, 102]
theorem in_hexS (c : UInt8) : inL hexS c = isHexd c.toNat := by
  have all : ∀ j : Fin 256, inL hexS (UInt8.ofNat j.val) = isHexd j.val := by decide +kernel
  have h := all ⟨c.toNat, c.toNat_lt⟩
  simpa using h
theorem only_hexS (l : List UInt8) : onlyL l hexS = l.all (fun x => isHexd x.toNat) := by
  unfold onlyL
  simp only [in_hexS]
/-- A text is the digits of some bytes. -/
def hexesL (s : List UInt8) : Bool := s == [45] || (decide (0 < s.length) && decide (s.length % 2 = 0) && onlyL s hexS)

/-- The half of a byte that a digit tells. -/
def nib (r : Nat) : Nat := if isDigit r then r - 48 else r - 87
theorem nib_lt {r : Nat} (h : isHexd r = true) : nib r < 16 := by
  unfold isHexd isDigit at h
  unfold nib isDigit
  simp only [Bool.or_eq_true, decide_eq_true_iff] at h
  split
  · rename_i h1; rw [decide_eq_true_iff] at h1; omega
  · rename_i h1; rw [decide_eq_true_iff] at h1; omega
/-- What of the byte at place j is there, once p digits were read. -/
def valB (l : List UInt8) (p j : Nat) : Nat :=
  if p ≤ 2 * j then 0 else if p = 2 * j + 1 then nib (l.getD (2 * j) 0).toNat else 16 * nib (l.getD (2 * j) 0).toNat + nib (l.getD (2 * j + 1) 0).toNat
def valL (l : List UInt8) (n p : Nat) : List Nat := (List.range n).map (valB l p)
theorem valL_length (l : List UInt8) (n p : Nat) : (valL l n p).length = n := by simp [valL]
theorem valL_at (l : List UInt8) (n p j : Nat) (h : j < n) : (valL l n p)[j]'(by rw [valL_length]; exact h) = valB l p j := by simp [valL]
theorem valL_zero (l : List UInt8) (n : Nat) : valL l n 0 = List.replicate n 0 := by
  apply List.ext_getElem
  · simp [valL]
  · intro j h1 h2
    simp [valL, valB]
theorem valB_half (l : List UInt8) (p : Nat) : valB l p (p / 2) = if p % 2 = 0 then 0 else nib (l.getD (p - 1) 0).toNat := by
  unfold valB
  by_cases h : p % 2 = 0
  · rw [if_pos h, if_pos (by omega)]
  · rw [if_neg h, if_neg (by omega), if_pos (by omega), show 2 * (p / 2) = p - 1 by omega]
theorem valB_next (l : List UInt8) (p : Nat) : valB l (p + 1) (p / 2) = 16 * valB l p (p / 2) + nib (l.getD p 0).toNat := by
  rw [valB_half]
  unfold valB
  by_cases h : p % 2 = 0
  · rw [if_pos h, if_neg (by omega), if_pos (by omega), show 2 * (p / 2) = p by omega]; omega
  · rw [if_neg h, if_neg (by omega), if_neg (by omega), show 2 * (p / 2) = p - 1 by omega, show p - 1 + 1 = p by omega]
theorem valB_else (l : List UInt8) (p j : Nat) (h : j ≠ p / 2) : valB l (p + 1) j = valB l p j := by
  unfold valB
  by_cases h1 : p ≤ 2 * j
  · rw [if_pos h1, if_pos (by omega)]
  · rw [if_neg h1, if_neg (by omega), if_neg (by omega), if_neg (by omega)]
theorem valL_next (l : List UInt8) (n p : Nat) (v : Nat) (hv : v = 16 * valB l p (p / 2) + nib (l.getD p 0).toNat) : (valL l n p).set (p / 2) v = valL l n (p + 1) := by
  apply List.ext_getElem
  · simp [valL]
  · intro j h1 h2
    rw [valL_length] at h2
    rw [List.getElem_set, valL_at _ _ _ _ h2]
    split
    · rename_i h; subst h; rw [valL_at _ _ _ _ h2, hv, valB_next]
    · rename_i h; rw [valL_at _ _ _ _ h2, valB_else _ _ _ (fun e => h e.symm)]
theorem valB_lt (l : List UInt8) (p : Nat) (hl : ∀ x ∈ l, isHexd x.toNat = true) (h : p ≤ l.length) (j : Nat) : valB l p j < 256 := by
  have at_ : ∀ i, i < l.length → nib (l.getD i 0).toNat < 16 := fun i hi => by
    rw [List.getD_eq_getElem?_getD, List.getElem?_eq_getElem hi]
    exact nib_lt (hl _ (List.getElem_mem hi))
  unfold valB
  split
  · omega
  · split
    · have := at_ (2 * j) (by omega); omega
    · have := at_ (2 * j) (by omega); have := at_ (2 * j + 1) (by omega); omega
/-- The bytes of which a text is the digits. -/
def unhexL (l : List UInt8) : List UInt8 := (valL l (l.length / 2) l.length).map UInt8.ofNat
theorem unhex_length (l : List UInt8) : (unhexL l).length = l.length / 2 := by simp [unhexL, valL_length]
theorem unhex_at (l : List UInt8) (j : Nat) (h : j < l.length / 2) : (unhexL l)[j]'(by rw [unhex_length]; exact h) = UInt8.ofNat (16 * nib (l.getD (2 * j) 0).toNat + nib (l.getD (2 * j + 1) 0).toNat) := by
  unfold unhexL
  rw [List.getElem_map, valL_at _ _ _ _ h]
  unfold valB
  rw [if_neg (by omega), if_neg (by omega)]

theorem flat_even (b : List UInt8) (j : Nat) (h : j < b.length) : (b.flatMap hex2).getD (2 * j) 0 = hexD (b[j].toNat / 16) ∧ (b.flatMap hex2).getD (2 * j + 1) 0 = hexD (b[j].toNat % 16) := by
  induction b generalizing j with
  | nil => simp at h
  | cons x b ih =>
    rw [List.flatMap_cons, show hex2 x = [hexD (x.toNat / 16), hexD (x.toNat % 16)] from rfl]
    cases j with
    | zero => exact ⟨rfl, rfl⟩
    | succ j =>
      have := ih j (by simpa using h)
      rw [show 2 * (j + 1) = 2 * j + 1 + 1 by omega]
      exact this
theorem nib_hexD : ∀ i : Fin 16, nib (hexD i.val).toNat = i.val := by decide +kernel
theorem hexD_nib (c : UInt8) (h : isHexd c.toNat = true) : hexD (nib c.toNat) = c := by
  have all : ∀ j : Fin 256, isHexd j.val = true → hexD (nib j.val) = UInt8.ofNat j.val := by decide +kernel
  have := all ⟨c.toNat, c.toNat_lt⟩ h
  simpa using this
theorem isHexd_hexD : ∀ i : Fin 16, isHexd (hexD i.val).toNat = true := by decide +kernel
/-- Bytes come back from their digits. -/
theorem unhex_hex (b : List UInt8) : unhexL (b.flatMap hex2) = b := by
  apply List.ext_getElem
  · rw [unhex_length, hex_len]; omega
  · intro j h1 h2
    rw [unhex_at _ _ (by rw [hex_len]; omega), (flat_even b j h2).1, (flat_even b j h2).2]
    have hb := b[j].toNat_lt
    have e1 := nib_hexD ⟨b[j].toNat / 16, by omega⟩
    have e2 := nib_hexD ⟨b[j].toNat % 16, by omega⟩
    simp only at e1 e2
    rw [e1, e2, Nat.div_add_mod]
    simp
theorem hex_unhex (l : List UInt8) (hl : ∀ x ∈ l, isHexd x.toNat = true) (h2 : l.length % 2 = 0) : (unhexL l).flatMap hex2 = l := by
  apply List.ext_getElem
  · rw [hex_len, unhex_length]; omega
  · intro i h1 hi
    have hj : i / 2 < l.length / 2 := by omega
    have hj' : i / 2 < (unhexL l).length := by rw [unhex_length]; exact hj
    have at_ : ∀ k, k < l.length → nib (l.getD k 0).toNat < 16 := fun k hk => by
      rw [List.getD_eq_getElem?_getD, List.getElem?_eq_getElem hk]
      exact nib_lt (hl _ (List.getElem_mem hk))
    have a0 := at_ (2 * (i / 2)) (by omega)
    have a1 := at_ (2 * (i / 2) + 1) (by omega)
    have hE := flat_even (unhexL l) (i / 2) hj'
    rw [unhex_at l (i / 2) hj] at hE
    have hn : (UInt8.ofNat (16 * nib (l.getD (2 * (i / 2)) 0).toNat + nib (l.getD (2 * (i / 2) + 1) 0).toNat)).toNat = 16 * nib (l.getD (2 * (i / 2)) 0).toNat + nib (l.getD (2 * (i / 2) + 1) 0).toNat := by
      rw [UInt8.toNat_ofNat']
      omega
    rw [hn] at hE
    have back : ∀ k (hk : k < l.length), hexD (nib (l.getD k 0).toNat) = l[k] := fun k hk => by
      rw [List.getD_eq_getElem?_getD, List.getElem?_eq_getElem hk]
      exact hexD_nib _ (hl _ (List.getElem_mem hk))
    have hg : ∀ k (hk : k < ((unhexL l).flatMap hex2).length), ((unhexL l).flatMap hex2)[k] = ((unhexL l).flatMap hex2).getD k 0 := fun k hk => by
      rw [List.getD_eq_getElem?_getD, List.getElem?_eq_getElem hk]; rfl
    rw [hg i h1]
    rcases Nat.mod_two_eq_zero_or_one i with hm | hm
    · have e : i = 2 * (i / 2) := by omega
      rw [show ((unhexL l).flatMap hex2).getD i 0 = ((unhexL l).flatMap hex2).getD (2 * (i / 2)) 0 by rw [← e], hE.1, show (16 * nib (l.getD (2 * (i / 2)) 0).toNat + nib (l.getD (2 * (i / 2) + 1) 0).toNat) / 16 = nib (l.getD (2 * (i / 2)) 0).toNat by omega, ← e, back i hi]
    · have e : i = 2 * (i / 2) + 1 := by omega
      rw [show ((unhexL l).flatMap hex2).getD i 0 = ((unhexL l).flatMap hex2).getD (2 * (i / 2) + 1) 0 by rw [← e], hE.2, show (16 * nib (l.getD (2 * (i / 2)) 0).toNat + nib (l.getD (2 * (i / 2) + 1) 0).toNat) % 16 = nib (l.getD (2 * (i / 2) + 1) 0).toNat by omega, ← e, back i hi]

/-- The bytes, and what is wrong: none, or not digits. -/
def bytesV (l : List UInt8) : List UInt8 := if l = [45] then [] else if hexesL l then unhexL l else []
def bytesE (l : List UInt8) : Int := if hexesL l then 0 else 2
theorem hexes_hex (b : List UInt8) : hexesL (hexL b) = true := by
  unfold hexL
  split
  · rfl
  · rename_i h
    have hp : 0 < b.length := Nat.pos_of_ne_zero fun e => h (List.eq_nil_of_length_eq_zero e)
    have ho : onlyL (b.flatMap hex2) hexS = true := by
      rw [only_hexS, List.all_eq_true]
      intro x hx
      obtain ⟨y, _, hy⟩ := List.mem_flatMap.1 hx
      have hb := y.toNat_lt
      rw [show hex2 y = [hexD (y.toNat / 16), hexD (y.toNat % 16)] from rfl] at hy
      simp only [List.mem_cons, List.mem_nil_iff, or_false] at hy
      rcases hy with rfl | rfl
      · exact isHexd_hexD ⟨y.toNat / 16, by omega⟩
      · exact isHexd_hexD ⟨y.toNat % 16, by omega⟩
    unfold hexesL
    rw [ho, hex_len, decide_eq_true (by omega), decide_eq_true (by omega), Bool.and_true, Bool.and_true, Bool.or_true]
theorem bytes_hex (b : List UInt8) : bytesV (hexL b) = b ∧ bytesE (hexL b) = 0 := by
  constructor
  · unfold bytesV
    rw [hexes_hex, if_pos rfl]
    unfold hexL
    by_cases h : b = []
    · rw [if_pos h, if_pos rfl, h]
    · rw [if_neg h, if_neg, unhex_hex]
      intro e
      have := congrArg List.length e
      rw [hex_len] at this
      simp at this
      omega
  · unfold bytesE
    rw [hexes_hex, if_pos rfl]
theorem hex_bytes (l : List UInt8) (h : hexesL l = true) : hexL (bytesV l) = l := by
  unfold bytesV
  by_cases h1 : l = [45]
  · rw [if_pos h1, h1]; rfl
  · rw [if_neg h1, if_pos h]
    unfold hexesL at h
    rw [beq_eq_false_iff_ne.2 h1, Bool.false_or, Bool.and_eq_true, Bool.and_eq_true, decide_eq_true_iff, decide_eq_true_iff, only_hexS, List.all_eq_true] at h
    have hn : unhexL l ≠ [] := by
      intro e
      have := congrArg List.length e
      rw [unhex_length] at this
      simp at this
      omega
    unfold hexL
    rw [if_neg hn, hex_unhex l h.2 h.1.2]
theorem or_half16 (x y : Nat) (hx : x < 16) (hy : y < 16) : bits .or .u8 ((x : Int) * 16) (y : Int) = ((16 * x + y : Nat) : Int) := by
  have all : ∀ a b : Fin 16, bits .or .u8 ((a.val : Int) * 16) (b.val : Int) = ((16 * a.val + b.val : Nat) : Int) := by decide +kernel
  exact all ⟨x, hx⟩ ⟨y, hy⟩
end Go.Proofs.YtolpggmcjengcaaDoor
