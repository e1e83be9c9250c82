/-
  Package taximeterref07: words.
-/
import Derived.Test.YtcofhjkmpkfbfaaDoorRef07
import Derived.Test.YtcofhjkmpkfbfaaDoorWords
namespace Go.Proofs.YtcofhjkmpkfbfaaDoor
open Go.RowKit
set_option linter.unusedVariables false

theorem strE : Elem Tryd.prog 23 9 (.string ⟨#[]⟩) 16 := Elem.mk' Tryd.underlying23 (by kernel_rfl) rfl
/-- A text's value. -/
def sv (l : List UInt8) : Value := .string ⟨l.toArray⟩
theorem sv_one (L : List (List UInt8)) : ∀ u ∈ L.map sv, u.oneCell' = true := by
  intro u hu
  obtain ⟨x, _, rfl⟩ := List.mem_map.1 hu
  rfl
theorem sv_bl (s : ByteArray) : sv (bl s) = .string s := by
  unfold sv
  rw [bl_inj (bl_mk (bl s))]
theorem bl_empty {s : ByteArray} (h : s.size = 0) : bl s = [] := List.eq_nil_of_length_eq_zero (by rw [bl_length]; exact h)
theorem bl_some {s : ByteArray} (h : 0 < s.size) : ¬ bl s = [] := fun e => by
  have := bl_length s
  rw [e] at this
  simp at this
  omega
/-- A call's answer: texts in memory of its own, and whether they are. -/
def RetS (r : Option (List (List UInt8))) (w : World) (x : Ending) (w' : World) : Prop :=
  ∃ A n c, x = .returned (.tuple #[.slice A n c, .bool r.isSome]) ∧ Hid ((r.getD []).length = n) ∧ n ≤ c ∧ c ≤ maxLen ∧ Vs w' w'.heap.size A ((r.getD []).map sv) ∧ Below w.heap.size w w'

set_option maxHeartbeats 1600000 in
theorem rwords_any (s : ByteArray) (w : World) (hs : s.size ≤ 65536) : Calls Tryd.prog 5 #[.string s] w (RetS (wordsL (bl s)) w) := by
  rcases Nat.eq_zero_or_pos s.size with h0 | h0
  · have h1 := empty_eq s h0
    have HF : Hid (wordsL (bl s) = some []) := by
      show _ = _
      have := bl_length s
      rw [h0] at this
      rw [List.eq_nil_of_length_eq_zero this]
      rfl
    go_enter Tryd.func5, Tryd.ntmps5
    go_wp2_with fail
    go_ret2
    exact ⟨none, 0, 0, by rw [HF.out]; rfl, Lib.hid (by rw [HF.out]; rfl), Nat.le_refl _, Nat.zero_le _, .inl (by rw [HF.out]; rfl), Below.refl _ _⟩
  · have h1 := some_eq s h0
    have HF : Hid (wordsL (bl s) = wsp [] (bl s)) := by
      show _ = _
      unfold wordsL
      rw [if_neg]
      intro e
      have := bl_length s
      rw [e] at this
      simp at this
      omega
    go_enter Tryd.func5, Tryd.ntmps5
    go_wp2_with fail
    go_loopw [4, 5, 6] (fun v x i wr => ∃ (j : Nat) (L : List (List UInt8)) (u : ByteArray), i = .int .i64 j ∧ x = .string u ∧ u.size + L.length ≤ j ∧ (j ≤ s.size ∧ Hid (wsp [] (bl s) = (wsp (bl u) ((bl s).drop j)).map (L ++ ·)) ∨ j = s.size + 1 ∧ Hid (wsp [] (bl s) = some L)) ∧ Own wr w.heap.size 9 v (L.map sv) ∧ Below w.heap.size w wr) (fun _ _ i _ => s.size + 2 - (intOf i).toNat)
    case atStart => exact ⟨0, [], ⟨#[]⟩, rfl, rfl, Nat.le_refl _, .inl ⟨Nat.zero_le _, Lib.hid (by rw [List.drop_zero, show bl ⟨#[]⟩ = [] from rfl]; simp)⟩, Own.nil _ _ _, Below.refl _ _⟩
    case round =>
      obtain ⟨j, L, u, rfl, rfl, hsz, hcase, hown, hb⟩ := hrel
      have hbs := hb.size
      rcases hcase with ⟨hj, HW⟩ | ⟨rfl, HW⟩
      · rcases Nat.lt_or_ge j s.size with hlt | hge
        · have hw := HW.out
          rw [bl_drop s j hlt] at hw
          by_cases h32 : s[j] = 32
          · rw [wsp_blank _ _ h32] at hw
            have h3 : ((s[j].toNat : Int) == 32) = true := by rw [byte_ne s[j] 32 32 rfl, h32]; rfl
            clear h32
            rcases Nat.eq_zero_or_pos u.size with hu | hu
            · have h2 := empty_eq u hu
              rw [if_pos (bl_empty hu)] at hw
              have HR : Hid (wordsL (bl s) = none) := by show _ = _; rw [HF.out, hw]; rfl
              clear hw HW
              go_wp2_with fail
              go_ret2
              exact ⟨none, 0, 0, by rw [HR.out]; rfl, Lib.hid (by rw [HR.out]; rfl), Nat.le_refl _, Nat.zero_le _, .inl (by rw [HR.out]; rfl), hb⟩
            · have h2 := some_eq u hu
              rw [if_neg (bl_some hu), Option.map_map] at hw
              have HR : Hid (wsp [] (bl s) = (wsp (bl ⟨#[]⟩) ((bl s).drop (j + 1))).map ((L ++ [bl u]) ++ ·)) := by
                show _ = _
                rw [hw]
                congr 1
                funext x
                simp
              clear hw HW
              go_wp2_with (at_builtin; refine wp_app1 wr rfl (.tmp 27) (.tmp 29) _ rfl w.heap.size 9 strE u4 _ rfl hown _ _ _ rfl rfl ?c1 ?c2 ?c3 ?_)
              case c1 => simp [maxLen]; omega
              case c2 => simp; omega
              case c3 => exact hbs
              intro v' w1 hown' hg
              have hown2 : Own w1 w.heap.size 9 v' ((L ++ [bl u]).map sv) := by
                rw [List.map_append, List.map_cons, List.map_nil, sv_bl]
                exact hown'
              have hb2 := hb.trans (below_app hown hg hbs)
              have hsz2 : (⟨#[]⟩ : ByteArray).size + (L ++ [bl u]).length ≤ j + 1 := by rw [List.length_append]; show 0 + (_ + 1) ≤ _; omega
              clear hown hown' hg hb
              go_wp2_with fail
              go_roundw
              case rel => exact ⟨j + 1, L ++ [bl u], ⟨#[]⟩, by go_num, rfl, hsz2, .inl ⟨by omega, HR⟩, hown2, hb2⟩
              case measure => simp [intOf]; omega
          · have h3 : ((s[j].toNat : Int) == 32) = false := by rw [byte_ne s[j] 32 32 rfl, beq_eq_false_iff_ne]; exact h32
            rcases Nat.lt_or_ge s[j].toNat 32 with hlo | hhi
            · rw [wsp_low _ _ h32 hlo] at hw
              have HR : Hid (wordsL (bl s) = none) := by show _ = _; rw [HF.out, hw]; rfl
              have h4 : decide ((s[j].toNat : Int) < 32) = true := by rw [decide_eq_true_iff]; omega
              clear hw HW h32
              go_wp2_with fail
              go_ret2
              exact ⟨none, 0, 0, by rw [HR.out]; rfl, Lib.hid (by rw [HR.out]; rfl), Nat.le_refl _, Nat.zero_le _, .inl (by rw [HR.out]; rfl), hb⟩
            · rw [wsp_byte _ _ h32 hhi] at hw
              have h4 : decide ((s[j].toNat : Int) < 32) = false := by rw [decide_eq_false_iff_not]; omega
              obtain ⟨D, d1, d2, d3⟩ := cut_one (P := Tryd.prog) Tryd.underlying9 s .i64 .i64 j hlt (j : Int) ((j : Int) + 1) rfl rfl
              have HR : Hid (wsp [] (bl s) = (wsp (bl (u ++ D)) ((bl s).drop (j + 1))).map (L ++ ·)) := by
                show _ = _
                rw [hw, bl_append, d2]
              have hsz2 : (u ++ D).size + L.length ≤ j + 1 := by rw [ByteArray.size_append]; omega
              clear hw HW h32 d2
              go_wp2_with fail
              go_roundw
              case rel => exact ⟨j + 1, L, u ++ D, by go_num, rfl, hsz2, .inl ⟨by omega, HR⟩, hown, hb⟩
              case measure => simp [intOf]; omega
        · obtain rfl : j = s.size := by omega
          have hw := HW.out
          rw [bl_end s _ (Nat.le_refl _), wsp_end] at hw
          have h3 : ((s.size : Int) == (s.size : Int)) = true := by simp
          rcases Nat.eq_zero_or_pos u.size with hu | hu
          · have h2 := empty_eq u hu
            rw [if_pos (bl_empty hu)] at hw
            have HR : Hid (wordsL (bl s) = none) := by show _ = _; rw [HF.out, hw]; rfl
            clear hw HW
            go_wp2_with fail
            go_ret2
            exact ⟨none, 0, 0, by rw [HR.out]; rfl, Lib.hid (by rw [HR.out]; rfl), Nat.le_refl _, Nat.zero_le _, .inl (by rw [HR.out]; rfl), hb⟩
          · have h2 := some_eq u hu
            rw [if_neg (bl_some hu)] at hw
            have HR : Hid (wsp [] (bl s) = some (L ++ [bl u])) := hw
            clear hw HW
            go_wp2_with (at_builtin; refine wp_app1 wr rfl (.tmp 27) (.tmp 29) _ rfl w.heap.size 9 strE u4 _ rfl hown _ _ _ rfl rfl ?e1 ?e2 ?e3 ?_)
            case e1 => simp [maxLen]; omega
            case e2 => simp; omega
            case e3 => exact hbs
            intro v' w1 hown' hg
            have hown2 : Own w1 w.heap.size 9 v' ((L ++ [bl u]).map sv) := by
              rw [List.map_append, List.map_cons, List.map_nil, sv_bl]
              exact hown'
            have hb2 := hb.trans (below_app hown hg hbs)
            have hsz2 : (⟨#[]⟩ : ByteArray).size + (L ++ [bl u]).length ≤ s.size + 1 := by rw [List.length_append]; show 0 + (_ + 1) ≤ _; omega
            clear hown hown' hg hb
            go_wp2_with fail
            go_roundw
            case rel => exact ⟨s.size + 1, L ++ [bl u], ⟨#[]⟩, by go_num, rfl, hsz2, .inr ⟨rfl, HR⟩, hown2, hb2⟩
            case measure => simp [intOf]
      · have HR : Hid (wordsL (bl s) = some L) := by show _ = _; rw [HF.out]; exact HW.out
        obtain ⟨A, c, rfl, g2, g3, g4⟩ := hown.form
        have h3 : decide (((s.size + 1 : Nat) : Int) ≤ (s.size : Int)) = false := by rw [decide_eq_false_iff_not]; omega
        go_wp2_with fail
        go_ret2
        refine ⟨A, _, c, by rw [HR.out]; rfl, Lib.hid (by rw [HR.out]; simp), by simpa using g2, g3, by rw [HR.out]; exact g4, hb⟩
theorem sv_at {w : World} {B b o : Nat} {L : List (List UInt8)} (h : Vs w B (some ⟨b, o, none⟩) (L.map sv)) (i : Nat) (hi : i < L.length) : w.cell? ⟨b, o + i, none⟩ = some (.string ⟨(L[i]).toArray⟩) := by
  obtain ⟨b', o', e, hb, hc⟩ := h.at_ (by rw [List.length_map]; omega)
  simp at e
  obtain ⟨rfl, rfl⟩ := e
  rw [hc i (by rw [List.length_map]; exact hi), List.getElem_map]
  rfl
end Go.Proofs.YtcofhjkmpkfbfaaDoor
