/- Contracts of letter, inner, word and Name of schema: which texts are names. Conditions: none. -/
import Derived.Test.YtjlpmhjnfgmmcaaSchP
import Derived.Laws.RangeAny
import Derived.Laws.DeepStrings4
import Derived.LoopTactic
import Derived.OwnWalk
import Derived.Lib.Strings
set_option maxRecDepth 100000
namespace Go.Proofs.Ytjlpmhjnfgmmcaa
open Go.RowKit Go.Maps Go.Sort Go.Lib

theorem letter_any (n : Int) (w : World) : Calls Try.prog 22 #[.int .i32 n] w fun e w' => e = .returned (.bool (decide (97 ≤ n ∧ n ≤ 122))) ∧ w' = w := by
  go_enter Try.func22, Try.ntmps22
  go_wp2
  all_goals
    go_ret
    refine ⟨ret_bool ?_, rfl⟩
    rw [Bool.eq_iff_iff]
    try (simp <;> omega)
theorem inner_any (n : Int) (w : World) : Calls Try.prog 23 #[.int .i32 n] w fun e w' => e = .returned (.bool (decide ((48 ≤ n ∧ n ≤ 57) ∨ n = 95))) ∧ w' = w := by
  go_enter Try.func23, Try.ntmps23
  go_wp2
  all_goals
    go_ret
    refine ⟨ret_bool ?_, rfl⟩
    rw [Bool.eq_iff_iff]
    try (simp <;> omega)
/-- the words' text -/
abbrev wordsA : ByteArray := ⟨#[115, 101, 108, 101, 99, 116, 32, 102, 114, 111, 109, 32, 119, 104, 101, 114, 101, 32, 103, 114, 111, 117, 112, 32, 98, 121, 32, 104, 97, 118, 105, 110, 103, 32, 111, 114, 100, 101, 114, 32, 108, 105, 109, 105, 116, 32, 97, 115, 32, 97, 110, 100, 32, 111, 114, 32, 110, 111, 116, 32, 105, 115, 32, 110, 117, 108, 108, 32, 116, 114, 117, 101, 32, 102, 97, 108, 115, 101, 32, 97, 115, 99, 32, 100, 101, 115, 99, 32, 110, 97, 110, 32, 105, 110, 102, 32]⟩
theorem wordsA_size : wordsA.size = 96 := by decide
theorem wordsA_low : ∀ p, (h : p < wordsA.size) → (wordsA[p]'h).toNat < 128 := by decide
theorem wordsA_at {p : Nat} (h : p < wordsA.size) : wordsB[p]? = some (wordsA[p]'h) := by
  have : wordsA.data.toList = wordsB := rfl
  rw [← this, Array.getElem?_toList, Array.getElem?_eq_getElem (by exact h)]
  rfl
theorem piece_toList (b p : Nat) : (wordsA.extract b p).toList = wordsB.extract b p := by
  rw [Lib.toList_data, ByteArray.data_extract, Array.toList_extract]
  rfl
theorem iter_below (w : World) (s : ByteArray) (p : Nat) : Below w.heap.size w (w.iter s p) := (Below.refl _ _).alloc (Nat.le_refl _) _
theorem i_next {p : Nat} (h : p < 9223372036854775807) : IntKind.i64.wrap ((p : Int) + 1) = (p : Int) + 1 := by rw [IntKind.wrap_i64]; omega
theorem beq_dec (a b : List UInt8) : (a == b) = decide (a = b) := by rw [Bool.eq_iff_iff]; simp
set_option maxHeartbeats 1600000 in
theorem word_any (s : ByteArray) (w : World) : Calls Try.prog 24 #[.string s] w fun e w' => e = .returned (.bool (wordL s.data.toList)) ∧ Below w.heap.size w w' := by
  have hst : s.toList = s.data.toList := Lib.toList_data s
  generalize s.data.toList = l at hst ⊢
  have HS := Lib.hid hst
  clear hst
  obtain ⟨B, hB⟩ : ∃ b, wordL l = b := ⟨_, rfl⟩
  have HB := Lib.hid hB
  rw [hB]
  clear hB
  go_enter Try.func24, Try.ntmps24
  go_wp2_with fail
  go_loopw [3] (fun b w' => ∃ p : Nat, w' = w.iter wordsA p ∧ b = .int .i64 (bgn p) ∧ p ≤ 96 ∧ Hid (NoW l p)) (fun _ w' => 96 - w'.iterPos w.heap.size)
  case atStart => exact ⟨0, rfl, rfl, by omega, Lib.hid (NoW.zero l)⟩
  case round =>
    obtain ⟨p, rfl, rfl, hp, hn⟩ := hrel
    by_cases hlt : p < 96
    · have hlt' : p < wordsA.size := by rw [wordsA_size]; exact hlt
      have hnx : ∀ ty, (Instr.next (.pointer (some ⟨w.heap.size, 0, none⟩)) true ty).run Try.prog (w.iter wordsA p) = _ := fun ty => run_next_ascii w wordsA p ty hlt' (wordsA_low p hlt')
      have hat := wordsA_at hlt'
      generalize wordsA[p]'hlt' = c at hat hnx
      clear hlt'
      by_cases hc : c.toNat = 32
      · have hc' : c = 32 := by apply UInt8.toNat_inj.1; exact hc
        subst hc'
        have hle := bgn_le p
        have hw := i_next (p := p) (by omega)
        have HC := Lib.hid (bgn_cut hat)
        have hq : ((wordsA.extract (bgn p) p).toList == s.toList) = decide (wordsB.extract (bgn p) p = l) := by rw [piece_toList, HS.out, beq_dec]
        have HP := Lib.hid (piece_word p hlt hat)
        have HCut := Lib.hid (fun (h : wordsB.extract (bgn p) p ≠ l) => hn.out.cut h)
        generalize bgn p = b at *
        cases hqq : decide (wordsB.extract b p = l)
        · rw [hqq] at hq
          have HN : Hid (NoW l (p + 1)) := Lib.hid (HCut.out (of_decide_eq_false hqq))
          clear hqq hn hat HCut HP hc
          go_wp2_with fail
          go_roundw
          case rel => exact ⟨p + 1, rfl, by rw [HC.out]; go_num, hlt, HN⟩
          case measure => simp; omega
        · rw [hqq] at hq
          have HN : Hid (B = true) := Lib.hid (by rw [← HB.out, ← of_decide_eq_true hqq]; exact HP.out)
          clear hqq hn hat HCut HP hc HB
          go_wp2_with fail
          go_ret
          exact ⟨ret_bool HN.out.symm, iter_below _ _ _⟩
      · have h32 : wordsB[p]? ≠ some 32 := by rw [hat]; intro h; apply hc; rw [Option.some.inj h]; rfl
        have HN : Hid (NoW l (p + 1)) := Lib.hid (hn.out.skip h32)
        have HC := Lib.hid (bgn_skip h32)
        have hc' : ¬ ((c.toNat : Int) = 32) := by omega
        clear hat h32 hc hn HB
        go_wp2_with fail
        go_roundw
        case rel => exact ⟨p + 1, rfl, by rw [HC.out], hlt, HN⟩
        case measure => simp; omega
    · have hnx : ∀ ty, (Instr.next (.pointer (some ⟨w.heap.size, 0, none⟩)) true ty).run Try.prog (w.iter wordsA p) = _ := fun ty => run_next_end w wordsA p ty (by rw [wordsA_size]; exact hlt)
      have HN : Hid (B = false) := Lib.hid (by rw [← HB.out]; exact hn.out.done hlt)
      clear hn HB
      go_wp2_with fail
      go_ret
      exact ⟨ret_bool HN.out.symm, iter_below _ _ _⟩
theorem byte_at (s : ByteArray) {p : Nat} (h : p < s.size) : s.data.toList[p]? = some (s[p]'h) := by
  rw [Array.getElem?_toList, Array.getElem?_eq_getElem (by exact h)]
  rfl
theorem size_len (s : ByteArray) : s.data.toList.length = s.size := (Lib.size_eq s).symm
/-- no byte ahead of p is bad -/
def OkTo (l : List UInt8) (p : Nat) : Prop := ∀ j c, j < p → l[j]? = some c → okAt j c = true
theorem OkTo.next {l : List UInt8} {p : Nat} {c : UInt8} (h : OkTo l p) (hc : l[p]? = some c) (ho : okAt p c = true) : OkTo l (p + 1) := fun j d hj hd => by
  by_cases e : j = p
  · subst e; rw [hc] at hd; cases hd; exact ho
  · exact h j d (by omega) hd
theorem OkTo.all {l : List UInt8} {p : Nat} (h : OkTo l p) (hp : ¬ p < l.length) : okL l := fun j c hc => h j c (by have := (List.getElem?_eq_some_iff.1 hc).1; omega) hc
theorem let_dec (c : UInt8) : decide ((97 : Int) ≤ (c.toNat : Int) ∧ (c.toNat : Int) ≤ 122) = letB c := by unfold letB; rw [Bool.eq_iff_iff]; simp <;> omega
theorem inn_dec (c : UInt8) : decide (((48 : Int) ≤ (c.toNat : Int) ∧ (c.toNat : Int) ≤ 57) ∨ (c.toNat : Int) = 95) = innB c := by unfold innB; rw [Bool.eq_iff_iff]; simp <;> omega
theorem high_bad {c : UInt8} (h : 128 ≤ c.toNat) (j : Nat) : okAt j c = false := by
  unfold okAt letB innB
  rw [decide_eq_false (by omega), decide_eq_false (p := (48 ≤ c.toNat ∧ c.toNat ≤ 57) ∨ c.toNat = 95) (by omega)]
  simp
set_option maxHeartbeats 1600000 in
theorem name_any (s : ByteArray) (w : World) : Calls Try.prog 9 #[.string s] w fun e w' => e = .returned (.bool (nameL s.data.toList)) ∧ Below w.heap.size w w' := by
  by_cases h0 : s.size = 0
  · have hn := name_len (l := s.data.toList) (.inl (by rw [size_len]; omega))
    rw [hn]
    clear hn
    go_enter Try.func9, Try.ntmps9
    go_wp2_with fail
    go_ret
    exact ⟨rfl, Below.refl _ _⟩
  by_cases h1 : 16 < s.size
  · have hn := name_len (l := s.data.toList) (.inr (by rw [size_len]; omega))
    rw [hn]
    clear hn
    go_enter Try.func9, Try.ntmps9
    go_wp2_with fail
    go_ret
    exact ⟨rfl, Below.refl _ _⟩
  have KW := word_any s
  have HB := Lib.hid (fun (h : okL s.data.toList) => name_word (by rw [size_len]; omega) (by rw [size_len]; omega) h)
  have HX := Lib.hid (fun j c (h1 : s.data.toList[j]? = some c) h2 => name_bad h1 h2)
  have HL := Lib.hid (size_len s)
  have HA := Lib.hid (fun p (h : p < s.size) => byte_at s h)
  obtain ⟨B, hB⟩ : ∃ b, nameL s.data.toList = b := ⟨_, rfl⟩
  obtain ⟨V, hV⟩ : ∃ b, wordL s.data.toList = b := ⟨_, rfl⟩
  rw [hV] at KW HB
  rw [hB] at HB ⊢
  rw [hB] at HX
  generalize s.data.toList = l at *
  have t0 : ((s.size : Int) == 0) = false := by rw [beq_eq_false_iff_ne]; omega
  have t1 : decide ((16 : Int) < (s.size : Int)) = false := decide_eq_false (by omega)
  clear hB hV
  go_enter Try.func9, Try.ntmps9
  go_wp2_with fail
  go_loopw [3] (fun _ w' => ∃ p : Nat, w' = w.iter s p ∧ p ≤ s.size ∧ Hid (OkTo l p)) (fun _ w' => s.size - w'.iterPos w.heap.size)
  case atStart => exact ⟨0, rfl, by omega, Lib.hid (fun j c hj => by omega)⟩
  case round =>
    obtain ⟨p, rfl, hp, hn⟩ := hrel
    by_cases hlt : p < s.size
    · have hat := HA.out p hlt
      by_cases hc : (s[p]'hlt).toNat < 128
      · have hnx : ∀ ty, (Instr.next (.pointer (some ⟨w.heap.size, 0, none⟩)) true ty).run Try.prog (w.iter s p) = _ := fun ty => run_next_ascii w s p ty hlt hc
        generalize s[p]'hlt = c at *
        have KL := letter_any (c.toNat : Int) (w.iter s (p + 1))
        have KI := inner_any (c.toNat : Int) (w.iter s (p + 1))
        rw [let_dec] at KL
        rw [inn_dec] at KI
        have HO := Lib.hid (fun (h : okAt p c = true) => hn.out.next hat h)
        have HF := Lib.hid (fun (h : okAt p c = false) => HX.out p c hat h)
        unfold okAt at HO HF
        generalize letB c = bl at *
        generalize innB c = bi at *
        clear hc hat hn HA HX HB KW
        cases bl
        · have t2 : ((p : Int) == 0) = decide (p = 0) := by rw [Bool.eq_iff_iff]; simp
          have HO := Lib.hid (fun h => HO.out h)
          cases hp0 : decide (p = 0)
          · rw [hp0] at t2
            have hpn : decide (p ≠ 0) = true := by rw [decide_eq_false_iff_not] at hp0; exact decide_eq_true hp0
            rw [hpn] at HO HF
            clear hp0 hpn
            cases bi
            · have HE := Lib.hid (HF.out rfl)
              clear HO HF
              go_wp2_with fail
              refine KL.mono ?_
              rintro e w1 ⟨rfl, rfl⟩
              go_wp2_with fail
              refine KI.mono ?_
              rintro e w1 ⟨rfl, rfl⟩
              go_wp2_with fail
              go_ret
              exact ⟨ret_bool HE.out.symm, iter_below _ _ _⟩
            · have HE := Lib.hid (HO.out rfl)
              clear HO HF
              go_wp2_with fail
              refine KL.mono ?_
              rintro e w1 ⟨rfl, rfl⟩
              go_wp2_with fail
              refine KI.mono ?_
              rintro e w1 ⟨rfl, rfl⟩
              go_wp2_with fail
              go_roundw
              case rel => exact ⟨p + 1, rfl, hlt, HE⟩
              case measure => simp; omega
          · rw [hp0] at t2
            have hpn : decide (p ≠ 0) = false := by rw [decide_eq_true_iff] at hp0; exact decide_eq_false (by omega)
            rw [hpn] at HO HF
            have HE := Lib.hid (HF.out rfl)
            clear HO HF hp0 hpn
            go_wp2_with fail
            refine KL.mono ?_
            rintro e w1 ⟨rfl, rfl⟩
            go_wp2_with fail
            go_ret
            exact ⟨ret_bool HE.out.symm, iter_below _ _ _⟩
        · have HE := Lib.hid (HO.out rfl)
          clear HO HF
          go_wp2_with fail
          refine KL.mono ?_
          rintro e w1 ⟨rfl, rfl⟩
          go_wp2_with fail
          go_roundw
          case rel => exact ⟨p + 1, rfl, hlt, HE⟩
          case measure => simp; omega
      · have hnx : ∀ ty, (Instr.next (.pointer (some ⟨w.heap.size, 0, none⟩)) true ty).run Try.prog (w.iter s p) = _ := fun ty => run_next_any w s p ty hlt
        have hd := (decode_high s p hlt (by omega)).1
        have HE := Lib.hid (HX.out p _ hat (high_bad (by omega) p))
        generalize (Utf8.decode s p).1 = r at *
        generalize (Utf8.decode s p).2 = q at *
        have KL := letter_any (r : Int) (w.iter s (p + q))
        have KI := inner_any (r : Int) (w.iter s (p + q))
        rw [decide_eq_false (by omega)] at KL
        rw [decide_eq_false (by omega)] at KI
        have t2 : ((p : Int) == 0) = decide (p = 0) := by rw [Bool.eq_iff_iff]; simp
        clear hc hat hn HA HX HB KW
        cases hp0 : decide (p = 0)
        all_goals (
          rw [hp0] at t2
          clear hp0
          go_wp2_with fail
          refine KL.mono ?_
          rintro e w1 ⟨rfl, rfl⟩
          go_wp2_with fail
          try (
            refine KI.mono ?_
            rintro e w1 ⟨rfl, rfl⟩
            go_wp2_with fail)
          go_ret
          exact ⟨ret_bool HE.out.symm, iter_below _ _ _⟩)
    · have hnx : ∀ ty, (Instr.next (.pointer (some ⟨w.heap.size, 0, none⟩)) true ty).run Try.prog (w.iter s p) = _ := fun ty => run_next_end w s p ty hlt
      have HE := Lib.hid (HB.out (hn.out.all (by rw [HL.out]; exact hlt)))
      have KW1 := KW (w.iter s p)
      have hb1 := iter_below w s p
      clear hn HA HX HB KW
      go_wp2_with fail
      refine KW1.mono ?_
      rintro e w1 ⟨rfl, hb⟩
      go_wp2_with fail
      go_ret
      exact ⟨ret_bool HE.out.symm, hb1.trans (hb.mono hb1.size)⟩
end Go.Proofs.Ytjlpmhjnfgmmcaa
