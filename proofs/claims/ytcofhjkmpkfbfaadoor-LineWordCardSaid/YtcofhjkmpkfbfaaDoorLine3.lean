/-
  Package line: Read.
-/
import Derived.Test.YtcofhjkmpkfbfaaDoorFlds
namespace Go.Proofs.YtcofhjkmpkfbfaaDoor
open Go.RowKit
set_option linter.unusedVariables false

/-- The fields of words, sign by sign, or what is wrong. -/
def addF (fs : List Fld) (r : List Fld × Int) : List Fld × Int := if r.2 = 0 then (fs ++ r.1, 0) else ([], r.2)
def readsL : List UInt8 → List (List UInt8) → List Fld × Int
  | c :: p, x :: ws => if (readF c.toNat x).2 = 0 then addF [(readF c.toNat x).1] (readsL p ws) else ([], (readF c.toNat x).2)
  | _, _ => ([], 0)
/-- Read. -/
def readL (s word pat : List UInt8) : List Fld × Int :=
  match wordsL s with
  | some (x :: ws) => if knownL pat = true ∧ ws.length = pat.length ∧ x = word then readsL pat ws else ([], 2)
  | _ => ([], 2)
theorem addF_addF (a b : List Fld) (r : List Fld × Int) : addF a (addF b r) = addF (a ++ b) r := by
  unfold addF
  by_cases h : r.2 = 0
  · simp [h]
  · simp [h]
theorem addF_nil (r : List Fld × Int) (h : r.2 ≠ 0 → r.1 = []) : addF [] r = r := by
  unfold addF
  split
  · next h' => rw [List.nil_append, ← h']
  · next h' => rw [← h h']
theorem readsL_err : ∀ (p : List UInt8) (ws : List (List UInt8)), (readsL p ws).2 ≠ 0 → (readsL p ws).1 = []
  | [], _, h => by simp [readsL] at h
  | _ :: _, [], h => by simp [readsL] at h
  | c :: p, x :: ws, h => by
    rw [readsL] at h ⊢
    split at h
    · next h' =>
      rw [if_pos h']
      unfold addF at h ⊢
      split at h
      · simp at h
      · next h2 => rw [if_neg h2]
    · next h' => rw [if_neg h']
theorem sp_mem (l : List UInt8) : ∀ x ∈ sp l, x.length ≤ l.length := by
  induction l with
  | nil => intro x hx; simp [sp] at hx; subst hx; simp
  | cons c t ih =>
    by_cases hc : c = 32
    · subst hc
      rw [sp_blank]
      intro x hx
      rcases List.mem_cons.1 hx with rfl | h
      · simp
      · have := ih x h
        rw [List.length_cons]
        omega
    · obtain ⟨h, r, e⟩ := sp_some t
      rw [sp_byte hc e]
      rw [e] at ih
      intro x hx
      rcases List.mem_cons.1 hx with rfl | h'
      · have := ih h (by simp)
        rw [List.length_cons, List.length_cons]
        omega
      · have := ih x (List.mem_cons_of_mem _ h')
        rw [List.length_cons]
        omega
theorem words_mem {l : List UInt8} {L : List (List UInt8)} (h : wordsL l = some L) : ∀ x ∈ L, x.length ≤ l.length := by
  by_cases h0 : l = []
  · subst h0
    obtain rfl : [] = L := Option.some.inj h
    intro x hx
    cases hx
  · rw [words_sp h0] at h
    split at h
    · obtain rfl := Option.some.inj h
      exact sp_mem l
    · cases h
/-- A call's answer: fields in memory of its own, and what is wrong. -/
def RetFs (r : List Fld × Int) (w : World) (e : Ending) (w' : World) : Prop :=
  ∃ A n c, e = .returned (.tuple #[.slice A n c, .int .i64 r.2]) ∧ Hid (r.1.length = n) ∧ n ≤ c ∧ c ≤ maxLen ∧ (r.1 = [] ∨ ∃ G, A = some ⟨G, 0, none⟩ ∧ w.heap.size ≤ G ∧ Flds w' G n r.1) ∧ Below w.heap.size w w'
theorem RetFs.none {w w' : World} (x : Int) (h : Below w.heap.size w w') : RetFs ([], x) w (.returned (.tuple #[.slice none 0 0, .int .i64 x])) w' :=
  ⟨Option.none, 0, 0, rfl, Lib.hid rfl, Nat.le_refl _, Nat.zero_le _, .inl rfl, h⟩

set_option maxRecDepth 100000 in
set_option maxHeartbeats 3200000 in
theorem lread_any (s word pat : ByteArray) (w : World) (hs : s.size ≤ 65536) (hp : pat.size ≤ 65536) (hm : MaxL w) (hO : Over w) :
    Calls Tryd.prog 7 #[.string s, .string word, .string pat] w (RetFs (readL (bl s) (bl word) (bl pat)) w) := by
  have HC := Lib.hid (nwords_any s w hs hm)
  have HK := Lib.hid (fun W => known_any pat W (by unfold maxLen; omega))
  have hpl := bl_length pat
  have hmem := fun L => words_mem (l := bl s) (L := L)
  rw [bl_length] at hmem
  have hR : readL (bl s) (bl word) (bl pat) = match wordsL (bl s) with
    | some (x :: ws) => if knownL (bl pat) = true ∧ ws.length = (bl pat).length ∧ x = bl word then readsL (bl pat) ws else ([], 2)
    | _ => ([], 2) := rfl
  rw [hR]
  obtain ⟨r, hr⟩ : ∃ r, wordsL (bl s) = r := ⟨_, rfl⟩
  rw [hr] at HC ⊢
  rw [hr] at hmem
  clear hr hR
  cases r with
  | none =>
    clear hmem
    go_enter Tryd.func7, Tryd.ntmps7
    go_wp2_with fail
    refine HC.out.mono ?_
    rintro e w1 ⟨A, n, c, rfl, hn, hnc, hcm, hv, hb⟩
    rw [show wordsE none = 2 from rfl]
    go_wp2_with fail
    go_ret2
    exact RetFs.none 2 hb
  | some L =>
    cases hk : knownL (bl pat) with
    | false =>
      have hF : (match some L with
        | some (x :: ws) => if false = true ∧ ws.length = (bl pat).length ∧ x = bl word then readsL (bl pat) ws else ([], 2)
        | _ => ([], 2) : List Fld × Int) = ([], 2) := by cases L <;> simp
      rw [hF]
      rw [hk] at HK
      clear hmem hF hk
      go_enter Tryd.func7, Tryd.ntmps7
      go_wp2_with fail
      refine HC.out.mono ?_
      rintro e w1 ⟨A, n, c, rfl, hn, hnc, hcm, hv, hb⟩
      rw [show wordsE (some L) = 0 from rfl]
      go_wp2_with fail
      refine (HK.out _).mono ?_
      rintro e w2 ⟨rfl, pos, rfl⟩
      go_wp2_with fail
      go_ret2
      exact RetFs.none 2 (hb.trans ((iter_below _ _ _).mono hb.size))
    | true =>
      rw [hk] at HK
      by_cases hl : L.length = 1 + pat.size
      · obtain ⟨x, ws, rfl⟩ : ∃ x ws, L = x :: ws := by
          match L, hl with
          | x :: ws, _ => exact ⟨x, ws, rfl⟩
          | [], hl => simp at hl; omega
        have hws : ws.length = pat.size := by simp at hl; omega
        obtain ⟨m, hm0⟩ : ∃ m, pat.size = m := ⟨_, rfl⟩
        have HM := Lib.hid hm0
        obtain ⟨X, hX, hXb⟩ : ∃ X, sv x = .string X ∧ bl X = x := ⟨_, rfl, bl_mk x⟩
        have hcmp : (X.toList == word.toList) = decide (x = bl word) := by
          rw [bl_toList, bl_toList, hXb]
          by_cases h : x = bl word
          · rw [decide_eq_true h, h]; simp
          · rw [decide_eq_false h, beq_eq_false_iff_ne]; exact h
        have hd : (match some (x :: ws) with
          | some (x :: ws) => if true = true ∧ ws.length = (bl pat).length ∧ x = bl word then readsL (bl pat) ws else ([], 2)
          | _ => ([], 2) : List Fld × Int) = if x = bl word then readsL (bl pat) ws else ([], 2) := by
            simp only [hpl, hws, true_and]
        rw [hd]
        by_cases hx : x = bl word
        · rw [if_pos hx]
          rw [decide_eq_true hx] at hcmp
          have HV := Lib.hid hX
          have HMEM := Lib.hid (fun y (hy : y ∈ ws) => hmem _ rfl y (List.mem_cons_of_mem _ hy))
          have HKN := Lib.hid hk
          have HWS := Lib.hid hws
          have HPL := Lib.hid hpl
          obtain ⟨CS, hmk, hfl⟩ := make_flds m (by omega)
          have HMK := Lib.hid hmk
          have HFL := Lib.hid hfl
          have hm1 : (pat.size : Int) = (m : Int) := by omega
          have hmb : m ≤ 65536 := by omega
          clear hmem hk hd hx hXb hX hm0 hmk hfl hpl
          go_enter Tryd.func7, Tryd.ntmps7
          go_wp2_with fail
          refine HC.out.mono ?_
          rintro e w1 ⟨A, n, c, rfl, hn, hnc, hcm, hv, hb⟩
          rw [show wordsE (some (x :: ws)) = 0 from rfl]
          have hn' : (x :: ws).length = n := hn.out
          have g1 : ((n : Int) != 1 + (pat.size : Int)) = false := by rw [bne_eq_false_iff_eq]; omega
          have g2 : (0 : Int) < (n : Int) := by omega
          have g3 : ((n : Int) != 1 + (m : Int)) = false := by rw [bne_eq_false_iff_eq]; omega
          have hnm : n = m + 1 := by rw [← hn', List.length_cons, hws, HM.out]
          obtain ⟨b, o, rfl, hbb, hc⟩ := hv.at_ (by simp)
          have hc0 : w1.cell? ⟨b, o, none⟩ = some (.string X) := by
            have := hc 0 (by simp)
            simp only [Option.getD_some, List.map_cons, List.getElem_cons_zero] at this
            rw [HV.out] at this
            exact this
          have HCW : Hid (∀ (j : Nat) (h : j < ws.length), w1.cell? ⟨b, o + (j + 1), none⟩ = some (sv ws[j])) := by
            intro j hj
            have := hc (j + 1) (by simp; omega)
            simp only [Option.getD_some, List.map_cons, List.getElem_cons_succ, List.getElem_map] at this
            exact this
          have HNM := Lib.hid hnm
          clear hn' hl hv hn hc hws hnm
          go_wp2_with fail
          refine (HK.out _).mono ?_
          rintro e w2 ⟨rfl, pos, rfl⟩
          obtain ⟨W, hW⟩ : ∃ W, w1.iter pat pos = W := ⟨_, rfl⟩
          have hbW : Below w1.heap.size w1 W := by rw [← hW]; exact iter_below _ _ _
          have hmk := HMK.out W
          have hfl := HFL.out W
          rw [hW]
          clear hW
          have hc1 : W.cell? ⟨b, o, none⟩ = some (.string X) := (hbW.cell hbb).trans hc0
          clear hc0
          obtain ⟨W2, hW2⟩ : ∃ W2, W.alloc (.cells CS 35) = W2 := ⟨_, rfl⟩
          have hb2 : Below w1.heap.size w1 W2 := by rw [← hW2]; exact hbW.alloc hbW.size _
          have HSZ : Hid (W2.heap.size = W.heap.size + 1) := by show _ = _; rw [← hW2]; simp
          rw [hW2] at hmk hfl
          clear hW2
          go_wp2_with fail
          go_loopw [9, 11, 12] (fun _ _ _ wr => ∃ (p : Nat) (fs : List Fld), p ≤ m ∧ Hid (fs.length = p) ∧ wr.heap[W2.heap.size]? = some (.stringIter pat p) ∧ Flds wr W.heap.size m fs ∧ Below w1.heap.size w1 wr ∧ Hid (readsL (bl pat) ws = addF fs (readsL ((bl pat).drop p) (ws.drop p)))) (fun _ _ _ wr => m - wr.iterPos W2.heap.size)
          case atStart =>
            exact ⟨0, [], Nat.zero_le _, Lib.hid rfl, World.iter_heap _ _ _, hfl.below ((Below.refl _ _).alloc (Nat.le_refl _) _), hb2.alloc hb2.size _, Lib.hid (by rw [List.drop_zero, List.drop_zero, addF_nil _ (readsL_err _ _)])⟩
          case round =>
            clear hmk hfl hb2 hc1
            obtain ⟨p, fs, hpm, HP, hit, hF, hbw, HR⟩ := hrel
            by_cases hlt : p < m
            · have hlt' : p < pat.size := by have := HM.out; omega
              have hlw : p < ws.length := by rw [HWS.out]; exact hlt'
              have hsg : isSign pat[p].toNat = true := by
                have := HKN.out
                unfold knownL at this
                rw [List.all_eq_true] at this
                rw [← bl_at pat p hlt']
                exact this _ (List.getElem_mem _)
              have ha : pat[p].toNat < 128 := by
                rcases Nat.lt_or_ge pat[p].toNat 128 with h | h
                · exact h
                · rw [isSign_high _ h] at hsg; cases hsg
              have hnx : ∀ ty, (Instr.next (.pointer (some ⟨W2.heap.size, 0, none⟩)) true ty).run Tryd.prog wr = _ := fun ty => Lib.run_next_ascii_at wr W2.heap.size pat p ty hit hlt' ha
              obtain ⟨Y, hY, hYb⟩ : ∃ Y, sv ws[p] = .string Y ∧ bl Y = ws[p] := ⟨_, rfl, bl_mk _⟩
              have hYs : Y.size ≤ 65536 := by rw [← bl_length, hYb]; exact Nat.le_trans (HMEM.out _ (List.getElem_mem _)) hs
              have hstep : readsL ((bl pat).drop p) (ws.drop p) = if (readF pat[p].toNat (bl Y)).2 = 0 then addF [(readF pat[p].toNat (bl Y)).1] (readsL ((bl pat).drop (p + 1)) (ws.drop (p + 1))) else ([], (readF pat[p].toNat (bl Y)).2) := by
                rw [bl_drop pat p hlt', List.drop_eq_getElem_cons hlw, readsL, hYb]
              obtain ⟨c0, hc0⟩ : ∃ c0, pat[p].toNat = c0 := ⟨_, rfl⟩
              rw [hc0] at hstep hsg
              simp only [hc0] at hnx
              have hrd := fun V h => read_any c0 hsg Y V hYs h
              obtain ⟨R, hRR⟩ : ∃ R, readF c0 (bl Y) = R := ⟨_, rfl⟩
              rw [hRR] at hstep hrd
              have HRD := Lib.hid hrd
              have HST := Lib.hid hstep
              have HPO := Lib.hid (iterPos_of hit)
              have hit2 := Lib.iterAt_heap wr W2.heap.size pat p (p + 1) hit
              have hF2 := hF.iterAt hit (by have := HSZ.out; omega) (p + 1)
              have hbV := Lib.below_iterAt hbw (k := W2.heap.size) (by have := hbW.size; have := HSZ.out; omega) pat (p + 1)
              obtain ⟨V, hV⟩ : ∃ V, wr.iterAt W2.heap.size pat (p + 1) = V := ⟨_, rfl⟩
              rw [hV] at hnx hit2 hF2 hbV
              have hcV : V.cell? ⟨b, o + (p + 1), none⟩ = some (.string Y) := (hbV.cell hbb).trans (by rw [HCW.out p hlw, hY])
              obtain ⟨q, hq⟩ : ∃ q, p + 1 = q := ⟨_, rfl⟩
              rw [hq] at hcV
              have e5 : IntKind.i64.wrap (1 + (p : Int)) = (q : Int) := by rw [← hq, IntKind.wrap_i64]; omega
              have g5 : (q : Int) < (n : Int) := by have := HNM.out; omega
              have g6 : (p : Int) < (m : Int) := by omega
              have hOV : Over V := hO.stay (hb.trans (hbV.mono hb.size))
              have HQ := Lib.hid hq
              clear hrd hstep hRR hc0 hYb hY hYs hV hF hbw hit ha hsg hlw hlt' hq
              go_wp2_with fail
              refine (HRD.out _ hOV).mono ?_
              rintro e w2 ⟨x1, x2, x3, rfl, hf, hbr⟩
              have hF3 := hF2.below hbr
              have hit3 : w2.heap[W2.heap.size]? = some (.stringIter pat (p + 1)) := (hbr.block _ (by have := (Array.getElem?_eq_some_iff.1 hit2).1; exact this)).trans hit2
              have hbw3 : Below w1.heap.size w1 w2 := hbV.trans (hbr.mono hbV.size)
              have hlf : fs.length < m := by rw [HP.out]; exact hlt
              have hF4 := hF3.put hf hlf
              have hth : w2.there W.heap.size (3 * p) (#[x1, x2, x3] : Array Value).size := fun j hj => by
                have h3 : j < 3 := hj
                have := hF3.room (3 * p + j) (by omega)
                rwa [Nat.zero_add] at this
              have hone : (#[x1, x2, x3] : Array Value).all (·.oneCell') = true := by
                rw [Array.all_eq_true_iff_forall_mem]
                have := hf.one
                simpa using this
              rw [HP.out] at hF4
              obtain ⟨f, x, hR⟩ : ∃ f x, R = (f, x) := ⟨_, _, rfl⟩
              subst hR
              rw [Nat.mul_comm 3 p] at hF4 hth
              have hit4 : (w2.setCells W.heap.size (p * 3) [x1, x2, x3]).heap[W2.heap.size]? = some (.stringIter pat (p + 1)) := by
                have hne : W2.heap.size ≠ W.heap.size := by have := HSZ.out; omega
                simp only [World.setCells]
                rw [heap_setCell_other _ _ _ _ hne, heap_setCell_other _ _ _ _ hne, heap_setCell_other _ _ _ _ hne]
                exact hit3
              have hbw4 : Below w1.heap.size w1 (w2.setCells W.heap.size (p * 3) [x1, x2, x3]) := by
                have hle := hbW.size
                simp only [World.setCells]
                exact ((hbw3.setCell hle _).setCell hle _).setCell hle _
              have HS := Lib.hid hF4
              obtain ⟨w3, hw3⟩ : ∃ w3, w2.setCells W.heap.size (p * 3) [x1, x2, x3] = w3 := ⟨_, rfl⟩
              rw [hw3] at HS hit4 hbw4
              have HW3 := Lib.hid hw3
              clear hF2 hF3 hF4 hcV hit2 hbV hbr hf hlf hOV hnx hit3 hbw3 hw3
              by_cases hx0 : x = 0
              · subst hx0
                go_wp2_with (first | (refine wpList_store_mid (by rfl) 35 (.tmp 61) (.tmp 59) (by rfl) W.heap.size (p * 3) #[x1, x2, x3] (by rfl) (by rfl) hth (by kernel_rfl) hone ?_; rw [show w2.setCells W.heap.size (p * 3) (#[x1, x2, x3] : Array Value).toList = w3 from HW3.out]))
                go_roundw
                case rel =>
                  refine ⟨q, fs ++ [f], by have := HQ.out; omega, Lib.hid (by rw [List.length_append, HP.out]; exact HQ.out), by rw [← HQ.out]; exact hit4, HS.out, hbw4, ?_⟩
                  show _ = _
                  rw [HR.out, HST.out, if_pos True.intro, addF_addF, HQ.out]
                case measure =>
                  show m - World.iterPos w3 W2.heap.size < _
                  rw [iterPos_of hit4, HPO.out]
                  omega
              · have gx : ((x : Int) != 0) = true := by rw [bne_iff_ne]; exact hx0
                have HX0 := Lib.hid hx0
                clear hx0
                go_wp2_with (first | (refine wpList_store_mid (by rfl) 35 (.tmp 61) (.tmp 59) (by rfl) W.heap.size (p * 3) #[x1, x2, x3] (by rfl) (by rfl) hth (by kernel_rfl) hone ?_; rw [show w2.setCells W.heap.size (p * 3) (#[x1, x2, x3] : Array Value).toList = w3 from HW3.out]))
                go_ret2
                have e : readsL (bl pat) ws = ([], x) := by
                  rw [HR.out, HST.out, if_neg HX0.out]
                  unfold addF
                  rw [if_neg HX0.out]
                rw [e]
                exact RetFs.none x (hb.trans (hbw4.mono hb.size))
            · obtain rfl : p = m := by omega
              have hpe : pat.size = p := HM.out
              have hnx : ∀ ty, (Instr.next (.pointer (some ⟨W2.heap.size, 0, none⟩)) true ty).run Tryd.prog wr = _ := fun ty => Lib.run_next_end_at wr W2.heap.size pat p ty hit (by omega)
              have HE : Hid (readsL (bl pat) ws = (fs, 0)) := by
                show _ = _
                rw [HR.out, bl_end pat p (by omega)]
                simp [readsL, addF]
              have HB := Lib.hid (hb.trans (hbw.mono hb.size))
              have HF := Lib.hid hF
              clear hpe hF hbw
              go_wp2_with fail
              go_ret2
              exact ⟨_, p, p, by rw [HE.out]; rfl, by rw [HE.out]; exact HP, Nat.le_refl _, by unfold maxLen; omega, .inr ⟨W.heap.size, rfl, Nat.le_trans hb.size hbW.size, by rw [HE.out]; exact HF.out⟩, HB.out⟩
        · rw [if_neg hx]
          rw [decide_eq_false hx] at hcmp
          have HV := Lib.hid hX
          clear hmem hk hd hx hXb hX hm0
          go_enter Tryd.func7, Tryd.ntmps7
          go_wp2_with fail
          refine HC.out.mono ?_
          rintro e w1 ⟨A, n, c, rfl, hn, hnc, hcm, hv, hb⟩
          rw [show wordsE (some (x :: ws)) = 0 from rfl]
          have hn' : (x :: ws).length = n := hn.out
          have g1 : ((n : Int) != 1 + (pat.size : Int)) = false := by rw [bne_eq_false_iff_eq]; omega
          have g2 : (0 : Int) < (n : Int) := by omega
          obtain ⟨b, o, rfl, hbb, hc⟩ := hv.at_ (by simp)
          have hc0 : w1.cell? ⟨b, o, none⟩ = some (.string X) := by
            have := hc 0 (by simp)
            simp only [Option.getD_some, List.map_cons, List.getElem_cons_zero] at this
            rw [HV.out] at this
            exact this
          clear hn' hl hv hn hc hws
          go_wp2_with fail
          refine (HK.out _).mono ?_
          rintro e w2 ⟨rfl, pos, rfl⟩
          have hc1 : (w1.iter pat pos).cell? ⟨b, o, none⟩ = some (.string X) := ((iter_below w1 pat pos).cell hbb).trans hc0
          clear hc0
          go_wp2_with fail
          go_ret2
          exact RetFs.none 2 (hb.trans ((iter_below _ _ _).mono hb.size))
      · have hF : (match some L with
          | some (x :: ws) => if true = true ∧ ws.length = (bl pat).length ∧ x = bl word then readsL (bl pat) ws else ([], 2)
          | _ => ([], 2) : List Fld × Int) = ([], 2) := by
            cases L with
            | nil => rfl
            | cons x ws =>
              simp only
              rw [if_neg]
              rintro ⟨_, h, _⟩
              rw [hpl] at h
              simp at hl
              omega
        rw [hF]
        clear hmem hF hk
        go_enter Tryd.func7, Tryd.ntmps7
        go_wp2_with fail
        refine HC.out.mono ?_
        rintro e w1 ⟨A, n, c, rfl, hn, hnc, hcm, hv, hb⟩
        rw [show wordsE (some L) = 0 from rfl]
        have hn' : L.length = n := hn.out
        have g1 : ((n : Int) != 1 + (pat.size : Int)) = true := by rw [bne_iff_ne]; omega
        clear hn' hl hv hn
        go_wp2_with fail
        refine (HK.out _).mono ?_
        rintro e w2 ⟨rfl, pos, rfl⟩
        go_wp2_with fail
        go_ret2
        exact RetFs.none 2 (hb.trans ((iter_below _ _ _).mono hb.size))
end Go.Proofs.YtcofhjkmpkfbfaaDoor
