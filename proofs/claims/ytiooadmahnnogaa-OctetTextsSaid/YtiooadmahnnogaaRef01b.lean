import Derived.Test.YtiooadmahnnogaaRef01
namespace Go.Proofs.Ytiooadmahnnogaa
open Go.RowKit
set_option linter.unusedVariables false

set_option maxHeartbeats 400000 in
/-- ref.Number. -/
theorem number_any (A : Option Addr) (n c : Nat) (l : List UInt8) (B : Nat) (w : World) (hn : l.length = n) (h : Bs w B A l) (hl : n ≤ 8) :
    Calls Try.prog 16 #[.slice A n c] w fun e w' => e = .returned (.int .u64 (leV l : Nat)) ∧ w = w' := by
  subst hn
  go_enter Try.func16, Try.ntmps16
  go_wp2
  go_loop [3, 4] (fun x i => ∃ j : Nat, j ≤ l.length ∧ i = .int .i64 ((j : Int) - 1) ∧ x = .int .u64 (leV (l.drop j) : Nat))
    (fun _ i => (intOf i + 1).toNat)
  case atStart => exact ⟨l.length, Nat.le_refl _, rfl, by simp [leV]⟩
  case round =>
    obtain ⟨j, hj, rfl, rfl⟩ := hrel
    rcases j with _ | j
    · go_wp2
      go_ret
      exact ⟨rfl, rfl⟩
    · have hlt : j < l.length := by omega
      obtain ⟨b, o, rfl, hb, hc⟩ := h.at_ (by omega)
      have hc1 := hc j hlt
      have hv : leV (l.drop (j + 1)) ≤ 72057594037927935 := by
        have h1 := leV_lt (l.drop (j + 1))
        have h2 : 256 ^ (l.drop (j + 1)).length ≤ 256 ^ 7 := Nat.pow_le_pow_right (by omega) (by simp; omega)
        have h3 : 256 ^ 7 = 72057594037927936 := rfl
        omega
      have HD := Lib.hid (leV_drop l j hlt)
      have hb8 : l[j].toNat < 256 := l[j].toNat_lt
      obtain ⟨v, hv'⟩ : ∃ v, leV (l.drop (j + 1)) = v := ⟨_, rfl⟩
      rw [hv'] at hv HD ⊢
      clear hc hv'
      go_wp2
      go_round
      case rel => exact ⟨j, by omega, by go_num, by rw [HD.out]; go_num⟩
      case measure => simp [intOf]
end Go.Proofs.Ytiooadmahnnogaa
