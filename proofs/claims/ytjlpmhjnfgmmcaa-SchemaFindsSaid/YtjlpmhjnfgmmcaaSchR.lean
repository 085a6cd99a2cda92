/- Contracts of the document's Word and Name. Conditions: Word: at most 10000 bytes. -/
import Derived.Test.YtjlpmhjnfgmmcaaSchN
set_option maxRecDepth 100000
namespace Go.Proofs.Ytjlpmhjnfgmmcaa
open Go.RowKit Go.Maps Go.Sort Go.Lib

/-- the document's words -/
abbrev wordsX : ByteArray := ⟨#[32, 115, 101, 108, 101, 99, 116, 32, 102, 114, 111, 109, 32, 119, 104, 101, 114, 101, 32, 103, 114, 111, 117, 112, 32, 98, 121, 32, 104, 97, 118, 105, 110, 103, 32, 111, 114, 100, 101, 114, 32, 108, 105, 109, 105, 116, 32, 97, 115, 32, 97, 110, 100, 32, 111, 114, 32, 110, 111, 116, 32, 105, 115, 32, 110, 117, 108, 108, 32, 116, 114, 117, 101, 32, 102, 97, 108, 115, 101, 32, 97, 115, 99, 32, 100, 101, 115, 99, 32, 110, 97, 110, 32, 105, 110, 102, 32]⟩
theorem wordsX_size : wordsX.size = 97 := by decide
theorem wordsX_at {p : Nat} (h : p < wordsX.size) : wordsR[p]? = some (wordsX[p]'h) := by
  have : wordsX.data.toList = wordsR := rfl
  rw [← this, Array.getElem?_toList, Array.getElem?_eq_getElem (by exact h)]
  rfl
theorem pieceX_toList (b p : Nat) : (wordsX.extract b p).toList = wordsR.extract b p := by
  rw [Lib.toList_data, ByteArray.data_extract, Array.toList_extract]
  rfl
theorem eq32 (c : UInt8) : ((c.toNat : Int) == 32) = decide (c = 32) := by
  rw [Bool.eq_iff_iff, beq_iff_eq, decide_eq_true_iff]
  constructor
  · intro h; apply UInt8.toNat_inj.1; show c.toNat = 32; omega
  · rintro rfl; rfl
set_option maxHeartbeats 1600000 in
theorem refWord_any (s : ByteArray) (hs : s.size ≤ 10000) (w : World) : Calls Try.prog 21 #[.string s] w fun e w' => e = .returned (.bool (wordL s.data.toList)) ∧ w' = w := by
  have hst : s.toList = s.data.toList := Lib.toList_data s
  have hl := size_len s
  have ha := fun p (h : p < s.size) => byte_at s h
  generalize s.data.toList = l at *
  obtain ⟨B, hB⟩ : ∃ b, wordL l = b := ⟨_, rfl⟩
  have HS := Lib.hid hst
  have HL := Lib.hid hl
  have HA := Lib.hid ha
  have HB := Lib.hid hB
  rw [hB]
  clear hB hst hl ha
  obtain ⟨X, hX⟩ : ∃ X, wordsX = X := ⟨_, rfl⟩
  have FS : X.size = 97 := by rw [← hX]; exact wordsX_size
  have FA := Lib.hid (show ∀ p, (h : p < X.size) → wordsR[p]? = some (X[p]'h) by rw [← hX]; exact fun p h => wordsX_at h)
  have FP := Lib.hid (show ∀ b p, (X.extract b p).toList = wordsR.extract b p by rw [← hX]; exact pieceX_toList)
  have HX := Lib.hid hX
  clear hX
  go_enter Try.func21, Try.ntmps21
  go_wp2_with fail
  go_loopw [3] (fun b W => ∃ p : Nat, W = w ∧ b = .int .i64 p ∧ p ≤ s.size ∧ Hid (∀ j, j < p → l[j]? ≠ some 32)) (fun b _ => s.size - (intOf b).toNat)
  case atStart => exact ⟨0, rfl, rfl, by omega, Lib.hid (fun j hj => by omega)⟩
  case round =>
    obtain ⟨p, hW, rfl, hp, hn⟩ := hrel
    have hW := hW.symm
    subst hW
    by_cases hlt : p < s.size
    · have hat := HA.out p hlt
      have hw := i_next (p := p) (by omega)
      have t0 := eq32 (s[p]'hlt)
      generalize hcc : (s[p]'hlt) = c at hat t0
      have t1 : (((s[p]'hlt).toNat : Int) == 32) = decide (c = 32) := by rw [hcc]; exact t0
      clear t0
      cases hc : decide (c = 32)
      · rw [hc] at t1
        have HN : Hid (∀ j, j < p + 1 → l[j]? ≠ some 32) := Lib.hid (fun j hj => by
          by_cases e : j = p
          · subst e; rw [hat]; intro h; exact of_decide_eq_false hc (Option.some.inj h)
          · exact hn.out j (by omega))
        clear hat hn hc hcc
        go_wp2_with fail
        go_roundw
        case rel => exact ⟨p + 1, trivial, by go_num, hlt, HN⟩
        case measure => simp [intOf]; omega
      · rw [hc] at t1
        have hc := of_decide_eq_true hc
        subst hc
        have HE : Hid (B = false) := Lib.hid (by rw [← HB.out]; exact blank_no (List.mem_of_getElem? hat))
        clear hat hn hcc
        go_wp2_with fail
        go_ret
        exact ⟨ret_bool HE.out.symm, rfl⟩
    · have HNo : Hid (¬ 32 ∈ l) := Lib.hid (fun h => by
        obtain ⟨j, hj⟩ := List.getElem?_of_mem h
        have := (List.getElem?_eq_some_iff.1 hj).1
        exact hn.out j (by have := HL.out; omega) hj)
      clear hn
      go_wp2_with fail
      go_loopw [4] (fun b W => ∃ p : Nat, W = w ∧ b = .int .i64 p ∧ p ≤ 97 ∧ Hid (∀ q, q < p → ¬ HitR l q)) (fun b _ => 97 - (intOf b).toNat)
      case atStart => exact ⟨0, rfl, rfl, by omega, Lib.hid (fun j hj => by omega)⟩
      case round =>
        obtain ⟨i, hW, rfl, hi, hn⟩ := hrel
        have hW := hW.symm
        subst hW
        have hw1 : IntKind.i64.wrap ((i : Int) + (s.size : Int)) = (i : Int) + (s.size : Int) := by rw [IntKind.wrap_i64]; omega
        have hw2 : IntKind.i64.wrap ((i : Int) + (s.size : Int) + 1) = (i : Int) + (s.size : Int) + 1 := by rw [IntKind.wrap_i64]; omega
        have hw3 := i_next (p := i) (by omega)
        have hw4 : IntKind.i64.wrap ((i : Int) + 1 + (s.size : Int)) = (i : Int) + 1 + (s.size : Int) := by rw [IntKind.wrap_i64]; omega
        by_cases hlt : i + s.size + 1 < 97
        · have t0 : decide ((i : Int) + (s.size : Int) + 1 < 97) = true := decide_eq_true (by omega)
          have hi1 : i < X.size := by omega
          have hi2 : i + 1 + s.size < X.size := by omega
          have t1 := eq32 (X[i]'hi1)
          have t3 := eq32 (X[i + 1 + s.size]'hi2)
          have t2 : ((X.extract (i + 1) (i + 1 + s.size)).toList == s.toList) = decide (wordsR.extract (i + 1) (i + 1 + s.size) = l) := by rw [FP.out, HS.out, beq_dec]
          have g1 := FA.out _ hi1
          have g3 := FA.out _ hi2
          cases d1 : decide (X[i]'hi1 = 32)
          · rw [d1] at t1
            have HN : Hid (∀ q, q < i + 1 → ¬ HitR l q) := Lib.hid (fun q hq h => by
              by_cases e : q = i
              · subst e; have := h.2.1; rw [g1] at this; exact of_decide_eq_false d1 (Option.some.inj this)
              · exact hn.out q (by omega) h)
            clear g1 g3 t2 t3 d1 hn
            have hX : wordsX = X := HX.out
            subst hX
            clear FS FA FP HX
            go_wp2_with fail
            go_roundw
            case rel => exact ⟨i + 1, trivial, by go_num, by omega, HN⟩
            case measure => simp [intOf]; omega
          rw [d1] at t1
          cases d2 : decide (wordsR.extract (i + 1) (i + 1 + s.size) = l)
          · rw [d2] at t2
            have HN : Hid (∀ q, q < i + 1 → ¬ HitR l q) := Lib.hid (fun q hq h => by
              by_cases e : q = i
              · subst e; have := h.2.2.1; rw [HL.out] at this; exact of_decide_eq_false d2 this
              · exact hn.out q (by omega) h)
            clear g1 g3 t3 d1 d2 hn
            have hX : wordsX = X := HX.out
            subst hX
            clear FS FA FP HX
            go_wp2_with fail
            go_roundw
            case rel => exact ⟨i + 1, trivial, by go_num, by omega, HN⟩
            case measure => simp [intOf]; omega
          rw [d2] at t2
          cases d3 : decide (X[i + 1 + s.size]'hi2 = 32)
          · rw [d3] at t3
            have HN : Hid (∀ q, q < i + 1 → ¬ HitR l q) := Lib.hid (fun q hq h => by
              by_cases e : q = i
              · subst e; have := h.2.2.2; rw [HL.out, g3] at this; exact of_decide_eq_false d3 (Option.some.inj this)
              · exact hn.out q (by omega) h)
            clear g1 g3 d1 d2 d3 hn
            have hX : wordsX = X := HX.out
            subst hX
            clear FS FA FP HX
            go_wp2_with fail
            go_roundw
            case rel => exact ⟨i + 1, trivial, by go_num, by omega, HN⟩
            case measure => simp [intOf]; omega
          rw [d3] at t3
          have HE : Hid (B = decide (0 < s.size)) := Lib.hid (by
            have h : HitR l i := ⟨by rw [HL.out]; exact hlt, by rw [g1, of_decide_eq_true d1], by rw [HL.out]; exact of_decide_eq_true d2, by rw [HL.out, g3, of_decide_eq_true d3]⟩
            rw [← HB.out, hit_ans h HNo.out, HL.out])
          clear g1 g3 d1 d2 d3 hn
          have hX : wordsX = X := HX.out
          subst hX
          clear FS FA FP HX
          go_wp2_with fail
          go_ret
          exact ⟨ret_bool HE.out.symm, rfl⟩
        · have t0 : decide ((i : Int) + (s.size : Int) + 1 < 97) = false := decide_eq_false (by omega)
          have HE : Hid (B = false) := Lib.hid (by rw [← HB.out]; exact no_hit hn.out (by rw [HL.out]; exact hlt))
          clear hn
          go_wp2_with fail
          go_ret
          exact ⟨ret_bool HE.out.symm, rfl⟩
/-- a byte of a name, as the document asks: in the order of its questions -/
theorem ask_let (c : UInt8) : (decide ((97 : Int) ≤ (c.toNat : Int)) && decide ((c.toNat : Int) ≤ 122)) = letB c := by
  unfold letB; rw [Bool.eq_iff_iff, Bool.and_eq_true]; simp <;> omega
theorem name_of {l : List UInt8} (h1 : 1 ≤ l.length) (h2 : l.length ≤ 16) (h : okL l) (hw : wordL l = false) : nameL l = true := by
  rw [name_word h1 h2 h, hw]; rfl
theorem name_not_word {l : List UInt8} (h : wordL l = true) : nameL l = false := by
  cases e : nameL l
  · rfl
  · have := (name_iff.1 e).2.2
    rw [h] at this; cases this
set_option maxHeartbeats 1600000 in
theorem refName_any (s : ByteArray) (w : World) : Calls Try.prog 10 #[.string s] w fun e w' => e = .returned (.bool (nameL s.data.toList)) ∧ w' = w := by
  by_cases h0 : s.size < 1
  · have hn := name_len (l := s.data.toList) (.inl (by rw [size_len]; omega))
    rw [hn]
    clear hn
    go_enter Try.func10, Try.ntmps10
    go_wp2_with fail
    go_ret
    exact ⟨rfl, rfl⟩
  by_cases h1 : 16 < s.size
  · have hn := name_len (l := s.data.toList) (.inr (by rw [size_len]; omega))
    rw [hn]
    clear hn
    go_enter Try.func10, Try.ntmps10
    go_wp2_with fail
    go_ret
    exact ⟨rfl, rfl⟩
  have KW := refWord_any s (by omega)
  have hs0 : 0 < s.size := by omega
  have HA := Lib.hid (fun p (h : p < s.size) => byte_at s h)
  have HX := Lib.hid (fun j c (h1 : s.data.toList[j]? = some c) h2 => name_bad h1 h2)
  have HF := Lib.hid (fun (h : okL s.data.toList) hw => name_of (by rw [size_len]; omega) (by rw [size_len]; omega) h hw)
  have HW := Lib.hid (fun h => name_not_word (l := s.data.toList) h)
  have HL := Lib.hid (size_len s)
  have g0 := byte_at s hs0
  obtain ⟨B, hB⟩ : ∃ b, nameL s.data.toList = b := ⟨_, rfl⟩
  obtain ⟨V, hV⟩ : ∃ b, wordL s.data.toList = b := ⟨_, rfl⟩
  rw [hV] at KW HF HW
  rw [hB] at HF HX HW ⊢
  generalize s.data.toList = l at *
  clear hB hV
  have z0 : decide ((s.size : Int) < 1) = false := decide_eq_false (by omega)
  have z1 : decide ((16 : Int) < (s.size : Int)) = false := decide_eq_false (by omega)
  by_cases hlo : (s[0]'hs0).toNat < 97
  · have HE : Hid (B = false) := Lib.hid (HX.out 0 _ g0 (by unfold okAt letB; rw [decide_eq_false (by omega)]; rfl))
    have t0 : decide (((s[0]'hs0).toNat : Int) < 97) = true := decide_eq_true (by omega)
    clear KW HA HX HF HW g0 hlo
    go_enter Try.func10, Try.ntmps10
    go_wp2_with fail
    go_ret
    exact ⟨ret_bool HE.out.symm, rfl⟩
  have t0 : decide (((s[0]'hs0).toNat : Int) < 97) = false := decide_eq_false (by omega)
  by_cases hhi : 122 < (s[0]'hs0).toNat
  · have HE : Hid (B = false) := Lib.hid (HX.out 0 _ g0 (by unfold okAt letB; rw [decide_eq_false (by omega)]; rfl))
    have t1 : decide ((122 : Int) < ((s[0]'hs0).toNat : Int)) = true := decide_eq_true (by omega)
    clear KW HA HX HF HW g0 hlo hhi
    go_enter Try.func10, Try.ntmps10
    go_wp2_with fail
    go_ret
    exact ⟨ret_bool HE.out.symm, rfl⟩
  have t1 : decide ((122 : Int) < ((s[0]'hs0).toNat : Int)) = false := decide_eq_false (by omega)
  have HZ : Hid (∀ c, l[0]? = some c → letB c = true) := Lib.hid (fun c hc => by rw [g0] at hc; cases hc; unfold letB; exact decide_eq_true (by omega))
  clear g0 hlo hhi
  cases V
  · have HF' := Lib.hid (fun h => HF.out h rfl)
    clear HF HW
    go_enter Try.func10, Try.ntmps10
    go_wp2_with fail
    refine (KW _).mono ?_
    rintro e w1 ⟨rfl, rfl⟩
    clear KW
    go_wp2_with fail
    clear t0 t1
    go_loopw [3] (fun b W => ∃ p : Nat, W = w1 ∧ b = .int .i64 p ∧ p ≤ s.size ∧ Hid (OkTo l p)) (fun b _ => s.size - (intOf b).toNat)
    case atStart => exact ⟨0, rfl, rfl, by omega, Lib.hid (fun j c hj => by omega)⟩
    case round =>
      obtain ⟨p, hW, rfl, hp, hn⟩ := hrel
      have hW := hW.symm
      subst hW
      by_cases hlt : p < s.size
      · have hat := HA.out p hlt
        have hw := i_next (p := p) (by omega)
        by_cases hg : letB (s[p]'hlt) = true ∨ innB (s[p]'hlt) = true
        · have HN : Hid (OkTo l (p + 1)) := Lib.hid (hn.out.next hat (by
            unfold okAt
            by_cases e : p = 0
            · subst e; rw [HZ.out _ hat]; rfl
            · rw [decide_eq_true e]
              rcases hg with hg | hg
              · rw [hg]; rfl
              · rw [hg]; simp))
          have Ho : Hid ((97 ≤ (s[p]'hlt).toNat ∧ (s[p]'hlt).toNat ≤ 122) ∨ (48 ≤ (s[p]'hlt).toNat ∧ (s[p]'hlt).toNat ≤ 57) ∨ (s[p]'hlt).toNat = 95) := Lib.hid (by
            rcases hg with hg | hg
            · exact .inl (of_decide_eq_true hg)
            · exact .inr (of_decide_eq_true hg))
          clear hat hg hn HA HX HF' HZ
          go_wp2
          all_goals
            first
            | (go_roundw
               case rel => exact ⟨p + 1, trivial, by go_num, hlt, HN⟩
               case measure => simp [intOf]; omega)
            | (exfalso; have := Ho.out; go_light; simp at *; omega)
        · have HE : Hid (B = false) := Lib.hid (HX.out p _ hat (by
            unfold okAt
            cases e1 : letB (s[p]'hlt)
            · cases e2 : innB (s[p]'hlt)
              · simp
              · exact absurd (.inr e2) hg
            · exact absurd (.inl e1) hg))
          have Ho : Hid (¬ ((97 ≤ (s[p]'hlt).toNat ∧ (s[p]'hlt).toNat ≤ 122) ∨ (48 ≤ (s[p]'hlt).toNat ∧ (s[p]'hlt).toNat ≤ 57) ∨ (s[p]'hlt).toNat = 95)) := Lib.hid (fun h => hg (by
            rcases h with h | h
            · exact .inl (decide_eq_true h)
            · exact .inr (decide_eq_true h)))
          clear hat hg hn HA HX HF' HZ
          go_wp2
          all_goals
            first
            | (exfalso; have := Ho.out; go_light; simp at *; omega)
            | (go_ret
               exact ⟨ret_bool HE.out.symm, rfl⟩)
      · have HE := Lib.hid (HF'.out (hn.out.all (by rw [HL.out]; exact hlt)))
        clear hn HA HX HF' HZ
        go_wp2_with fail
        go_ret
        exact ⟨ret_bool HE.out.symm, rfl⟩
  · have HE : Hid (B = false) := Lib.hid (HW.out rfl)
    clear HF HW HA HX
    go_enter Try.func10, Try.ntmps10
    go_wp2_with fail
    refine (KW _).mono ?_
    rintro e w1 ⟨rfl, rfl⟩
    clear KW
    go_wp2_with fail
    go_ret
    exact ⟨ret_bool HE.out.symm, rfl⟩
end Go.Proofs.Ytjlpmhjnfgmmcaa
