/- The document's examples for schema are as it says; the walks of SchemaNames and SchemaWords. Conditions: none. -/
import Derived.Test.YtjlpmhjnfgmmcaaSchU
set_option maxRecDepth 100000
namespace Go.Proofs.Ytjlpmhjnfgmmcaa
open Go.RowKit Go.Maps Go.Sort Go.Lib

abbrev tA : ByteArray := ⟨#[97]⟩
abbrev tB : ByteArray := ⟨#[98]⟩
abbrev tR : ByteArray := ⟨#[114]⟩
abbrev tT : ByteArray := ⟨#[116]⟩
theorem ex_tab1 : tabE tT [(tA, 1), (tA, 1)] = 5 := by decide +kernel
theorem ex_tab2 : tabE tT [(tB, 3)] = 0 := by decide +kernel
theorem ex_rol : rolE tR tT [] [(2, tB)] tT [(tB, 3)] = 12 := by decide +kernel
theorem ex_sel : nameL (⟨#[115, 101, 108, 101, 99, 116]⟩ : ByteArray).data.toList = false := by decide +kernel
theorem ex_a1 : nameL (⟨#[97, 95, 49]⟩ : ByteArray).data.toList = true := by decide +kernel
set_option maxHeartbeats 1600000 in
theorem lives_any (w : World) : Calls Try.prog 8 #[] w fun e w' => e = .returned (.bool true) ∧ Below w.heap.size w w' := by
  obtain ⟨W1, hW1⟩ : ∃ W, w.alloc (.cells #[.string tA, .int .i64 1, .string tA, .int .i64 1] 49) = W := ⟨_, rfl⟩
  have hb1 : Below w.heap.size w W1 := by rw [← hW1]; exact box_below _ _
  have hs1 : W1.heap.size = w.heap.size + 1 := by rw [← hW1]; simp
  have hc1 : Holds2 W1 (.slice (some ⟨w.heap.size, 0, none⟩) 2 2) ([(tA, 1), (tA, 1)].map colC) := by rw [← hW1]; exact holds2_new w _ _ 2 rfl _ rfl
  obtain ⟨W2, hW2⟩ : ∃ W, W1.alloc (.cells #[.string tT, .slice (some ⟨w.heap.size, 0, none⟩) 2 2] 26) = W := ⟨_, rfl⟩
  have hb2 : Below W1.heap.size W1 W2 := by rw [← hW2]; exact box_below _ _
  have hs2 : W2.heap.size = w.heap.size + 1 + 1 := by rw [← hW2]; simp [hs1]
  have hx2 : W2.heap[w.heap.size + 1]? = some (.cells #[.string tT, .slice (some ⟨w.heap.size, 0, none⟩) 2 2] 26 (0, 0)) := by rw [← hW2, ← hs1]; exact heap_alloc_new W1 _
  have hT2 : TabBox W2 (w.heap.size + 1) tT (some ⟨w.heap.size, 0, none⟩) 2 2 [(tA, 1), (tA, 1)] := ⟨hx2, hc1.below hb2, rfl⟩
  obtain ⟨W3, hW3⟩ : ∃ W, W2.alloc (.cells #[.string tB, .int .i64 3] 49) = W := ⟨_, rfl⟩
  have hb3 : Below W2.heap.size W2 W3 := by rw [← hW3]; exact box_below _ _
  have hs3 : W3.heap.size = w.heap.size + 1 + 1 + 1 := by rw [← hW3]; simp [hs2]
  have hc3 : Holds2 W3 (.slice (some ⟨w.heap.size + 1 + 1, 0, none⟩) 1 1) ([(tB, 3)].map colC) := by rw [← hW3, ← hs2]; exact holds2_new W2 _ _ 1 rfl _ rfl
  obtain ⟨W4, hW4⟩ : ∃ W, W3.alloc (.cells #[.string tT, .slice (some ⟨w.heap.size + 1 + 1, 0, none⟩) 1 1] 26) = W := ⟨_, rfl⟩
  have hb4 : Below W3.heap.size W3 W4 := by rw [← hW4]; exact box_below _ _
  have hx4 : W4.heap[w.heap.size + 1 + 1 + 1]? = some (.cells #[.string tT, .slice (some ⟨w.heap.size + 1 + 1, 0, none⟩) 1 1] 26 (0, 0)) := by rw [← hW4, ← hs3]; exact heap_alloc_new W3 _
  have hU4 : TabBox W4 (w.heap.size + 1 + 1 + 1) tT (some ⟨w.heap.size + 1 + 1, 0, none⟩) 1 1 [(tB, 3)] := ⟨hx4, hc3.below hb4, rfl⟩
  have hT4 := (hT2.below hb3).below hb4
  have hb : Below w.heap.size w W4 := (hb1.trans (hb2.mono hb1.size)).trans ((hb3.trans (hb4.mono hb3.size)).mono (Nat.le_trans hb1.size hb2.size))
  have HB := Lib.hid hb
  have HU := Lib.hid hU4
  obtain ⟨c0, c1⟩ := hT4.cells
  have KT := table_any hT4.cols rfl (by omega) tT
  rw [ex_tab1] at KT
  have KN1 := name_any ⟨#[115, 101, 108, 101, 99, 116]⟩
  have KN2 := name_any ⟨#[97, 95, 49]⟩
  rw [ex_sel] at KN1
  rw [ex_a1] at KN2
  clear hb hU4 hT4 hx4 hb4 hc3 hb3 hT2 hx2 hb2 hc1 hb1
  subst hW4 hW3 hW2 hW1
  clear hs1 hs2 hs3
  go_enter Try.func8, Try.ntmps8
  go_wp2_with fail
  refine KT.mono ?_
  rintro e w5 ⟨rfl, hb5⟩
  have hU5 := HU.out.below hb5
  have hB5 := HB.out.trans (hb5.mono HB.out.size)
  have hb6 := box_below w5 (.cells #[.int .i64 2, .string tB] 41)
  have hU6 := hU5.below hb6
  have hM6 : Holds2 (w5.alloc (.cells #[.int .i64 2, .string tB] 41)) (.slice (some ⟨w5.heap.size, 0, none⟩) 1 1) ([((2 : Int), tB)].map meaC) := holds2_new w5 _ _ 1 rfl _ rfl
  have KR := rollup_any (rn := tR) (rt := tT) (tn := tT) (ds := []) (Holds.nil _) hM6 hU6.cols rfl rfl rfl (by omega) (by omega) (by omega)
  rw [ex_rol] at KR
  obtain ⟨d0, d1⟩ := hU6.cells
  have HU6 := Lib.hid hU6
  have HB6 := Lib.hid (hB5.trans (hb6.mono hB5.size))
  clear hU5 hB5 hb6 hU6 hM6 hb5 c0 c1 KT HU HB
  go_wp2_with fail
  refine KR.mono ?_
  rintro e w7 ⟨rfl, hb7⟩
  have HU7 := Lib.hid (HU6.out.below hb7)
  have HB7 := Lib.hid (HB6.out.trans (hb7.mono HB6.out.size))
  clear KR hb7 d0 d1 HU6 HB6
  go_wp2_with fail
  refine (KN1 _).mono ?_
  rintro e w8 ⟨rfl, hb8⟩
  have HU8 := Lib.hid (HU7.out.below hb8)
  have HB8 := Lib.hid (HB7.out.trans (hb8.mono HB7.out.size))
  clear HU7 HB7 hb8 KN1
  go_wp2_with fail
  refine (KN2 _).mono ?_
  rintro e w9 ⟨rfl, hb9⟩
  have hU9 := HU8.out.below hb9
  have HB9 := Lib.hid (HB8.out.trans (hb9.mono HB8.out.size))
  obtain ⟨c0, c1⟩ := hU9.cells
  have KT := table_any hU9.cols rfl (by omega) tT
  rw [ex_tab2] at KT
  clear HU8 HB8 hb9 KN2 hU9
  go_wp2_with fail
  refine KT.mono ?_
  rintro e w10 ⟨rfl, hb10⟩
  go_wp2_with fail
  go_ret
  exact ⟨rfl, HB9.out.trans (hb10.mono HB9.out.size)⟩
theorem names_walk (s : ByteArray) (w : World) : Calls Try.prog 3 #[.string s] w fun e w' => e = .returned (.bool true) ∧ Below w.heap.size w w' := by
  have KL := lives_any
  cases hq : decide ((10000 : Int) < (s.size : Int))
  · have K1 := name_any s w
    have K2 := refName_any s
    generalize nameL s.data.toList = b at *
    go_enter Try.func3, Try.ntmps3
    go_wp2_with fail
    refine K1.mono ?_
    rintro e w1 ⟨rfl, hb⟩
    have HB := Lib.hid hb
    clear hb
    cases b
    all_goals (
      go_wp2_with fail
      refine (K2 _).mono ?_
      rintro e w2 ⟨rfl, rfl⟩
      go_wp2_with fail
      refine (KL _).mono ?_
      rintro e w3 ⟨rfl, hb3⟩
      go_wp2_with fail
      go_ret
      exact ⟨rfl, HB.out.trans (hb3.mono HB.out.size)⟩)
  · go_enter Try.func3, Try.ntmps3
    go_wp2_with fail
    refine (KL _).mono ?_
    rintro e w1 ⟨rfl, hb⟩
    go_wp2_with fail
    go_ret
    exact ⟨rfl, hb⟩
/-- the words that the law asks -/
abbrev askV : Array Value := #[.string ⟨#[115, 101, 108, 101, 99, 116]⟩, .string ⟨#[102, 114, 111, 109]⟩, .string ⟨#[119, 104, 101, 114, 101]⟩, .string ⟨#[103, 114, 111, 117, 112]⟩, .string ⟨#[98, 121]⟩, .string ⟨#[104, 97, 118, 105, 110, 103]⟩, .string ⟨#[111, 114, 100, 101, 114]⟩, .string ⟨#[108, 105, 109, 105, 116]⟩, .string ⟨#[97, 115]⟩, .string ⟨#[97, 110, 100]⟩, .string ⟨#[111, 114]⟩, .string ⟨#[110, 111, 116]⟩, .string ⟨#[105, 115]⟩, .string ⟨#[110, 117, 108, 108]⟩, .string ⟨#[116, 114, 117, 101]⟩, .string ⟨#[102, 97, 108, 115, 101]⟩, .string ⟨#[97, 115, 99]⟩, .string ⟨#[100, 101, 115, 99]⟩, .string ⟨#[110, 97, 110]⟩, .string ⟨#[105, 110, 102]⟩, .string ⟨#[]⟩]
def askL : List ByteArray := [⟨#[115, 101, 108, 101, 99, 116]⟩, ⟨#[102, 114, 111, 109]⟩, ⟨#[119, 104, 101, 114, 101]⟩, ⟨#[103, 114, 111, 117, 112]⟩, ⟨#[98, 121]⟩, ⟨#[104, 97, 118, 105, 110, 103]⟩, ⟨#[111, 114, 100, 101, 114]⟩, ⟨#[108, 105, 109, 105, 116]⟩, ⟨#[97, 115]⟩, ⟨#[97, 110, 100]⟩, ⟨#[111, 114]⟩, ⟨#[110, 111, 116]⟩, ⟨#[105, 115]⟩, ⟨#[110, 117, 108, 108]⟩, ⟨#[116, 114, 117, 101]⟩, ⟨#[102, 97, 108, 115, 101]⟩, ⟨#[97, 115, 99]⟩, ⟨#[100, 101, 115, 99]⟩, ⟨#[110, 97, 110]⟩, ⟨#[105, 110, 102]⟩, ⟨#[]⟩]
theorem ask_at (W : World) : ∀ i, i < 21 → (Instr.index 51 (.agg askV) (.int .i64 ((i : Nat) : Int))).run Try.prog W = .ok (.string (askL.getD i ⟨#[]⟩)) W
  | 0, _ => by kernel_rfl
  | 1, _ => by kernel_rfl
  | 2, _ => by kernel_rfl
  | 3, _ => by kernel_rfl
  | 4, _ => by kernel_rfl
  | 5, _ => by kernel_rfl
  | 6, _ => by kernel_rfl
  | 7, _ => by kernel_rfl
  | 8, _ => by kernel_rfl
  | 9, _ => by kernel_rfl
  | 10, _ => by kernel_rfl
  | 11, _ => by kernel_rfl
  | 12, _ => by kernel_rfl
  | 13, _ => by kernel_rfl
  | 14, _ => by kernel_rfl
  | 15, _ => by kernel_rfl
  | 16, _ => by kernel_rfl
  | 17, _ => by kernel_rfl
  | 18, _ => by kernel_rfl
  | 19, _ => by kernel_rfl
  | 20, _ => by kernel_rfl
  | n + 21, h => absurd h (by omega)
theorem ask_word : ∀ x ∈ askL, nameL x.data.toList = false ∧ nameL (x ++ (⟨#[122]⟩ : ByteArray)).data.toList = true ∧ x.size ≤ 6 := by decide +kernel
theorem app_toList (s : ByteArray) (c : UInt8) : (s ++ (⟨#[c]⟩ : ByteArray)).data.toList = s.data.toList ++ [c] := by
  rw [ByteArray.data_append, Array.toList_append]
/-- a name has no capital letter -/
theorem cap_no {l : List UInt8} {j : Nat} {c : UInt8} (h : l[j]? = some c) (h1 : 65 ≤ c.toNat) (h2 : c.toNat ≤ 90) : nameL l = false := by
  refine name_bad h ?_
  unfold okAt letB innB
  rw [decide_eq_false (by omega), decide_eq_false (p := (48 ≤ c.toNat ∧ c.toNat ≤ 57) ∨ c.toNat = 95) (by omega)]
  simp
/-- a name with a digit behind it is a name, or a word -/
theorem nine_name {l : List UInt8} (h : nameL l = true) (hl : l.length ≠ 16) : nameL (l ++ [57]) = true ∨ wordL (l ++ [57]) = true := by
  obtain ⟨⟨h1, h2⟩, h3, h4⟩ := name_iff.1 h
  cases hw : wordL (l ++ [57])
  · refine .inl (name_of (by simp) (by simp; omega) (fun j c hc => ?_) hw)
    rcases Nat.lt_or_ge j l.length with g | g
    · rw [List.getElem?_append_left g] at hc
      exact h3 j c hc
    · rw [List.getElem?_append_right g] at hc
      have hj : j - l.length = 0 := by
        have := (List.getElem?_eq_some_iff.1 hc).1
        simp at this
        omega
      rw [hj] at hc
      simp at hc
      subst hc
      unfold okAt
      rw [decide_eq_true (show j ≠ 0 by omega)]
      decide
  · exact .inr rfl
set_option maxHeartbeats 3200000 in
theorem words_walk (s : ByteArray) (w : World) : Calls Try.prog 7 #[.string s] w fun e w' => e = .returned (.bool true) ∧ Below w.heap.size w w' := by
  have KL := lives_any
  have KN := Lib.hid name_any
  have KW := Lib.hid refWord_any
  go_enter Try.func7, Try.ntmps7
  go_wp2_with fail
  go_loopw [7] (fun s' W => ∃ i : Nat, s' = .int .i64 i ∧ i ≤ 21 ∧ Hid (Below w.heap.size w W)) (fun s' _ => 21 - (intOf s').toNat)
  case atStart => exact ⟨0, rfl, by omega, Lib.hid (Below.refl _ _)⟩
  case round =>
    obtain ⟨i, rfl, hi, hb⟩ := hrel
    by_cases hlt : i < 21
    · have hix := fun W => ask_at W i hlt
      obtain ⟨x, hx⟩ : ∃ x, askL[i]? = some x := ⟨_, List.getElem?_eq_getElem (by show i < 21; exact hlt)⟩
      obtain ⟨a1, a2, a3⟩ := ask_word x (List.mem_of_getElem? hx)
      rw [List.getD_eq_getElem?_getD, hx] at hix
      simp only [Option.getD_some] at hix
      have K1 := KN.out x
      have K2 := KN.out (x ++ (⟨#[122]⟩ : ByteArray))
      rw [a1] at K1
      rw [a2] at K2
      have hlt' : (i : Int) < 21 := by omega
      have b0 : (0 : Int) ≤ (i : Int) := Int.natCast_nonneg i
      have hw := i_next (p := i) (by omega)
      have hsz : x.size + (⟨#[122]⟩ : ByteArray).size ≤ 9223372036854775807 := by
        have : (⟨#[122]⟩ : ByteArray).size = 1 := rfl
        omega
      have hadd : ∀ W, (Op.stringOp .add x ⟨#[122]⟩).run Try.prog W = .ok (.string (x ++ (⟨#[122]⟩ : ByteArray))) W := fun W => run_string_add_sum W x _ hsz
      have HLT := Lib.hid hlt
      clear hx a1 a2 a3 hi hlt hsz
      go_wp2_with fail
      refine (K1 _).mono ?_
      rintro e w1 ⟨rfl, hb1⟩
      go_wp2_with fail
      refine (K2 _).mono ?_
      rintro e w2 ⟨rfl, hb2⟩
      have HB2 := Lib.hid ((hb.out.trans (hb1.mono hb.out.size)).trans (hb2.mono (Nat.le_trans hb.out.size hb1.size)))
      clear hb hb1 hb2 K1 K2
      go_wp2_with fail
      go_roundw
      case rel => exact ⟨i + 1, by go_num, by have := HLT.out; omega, HB2⟩
      case measure => have := HLT.out; simp [intOf]; omega
    have hin : ¬ ((i : Int) < 21) := by omega
    clear hlt hi
    obtain ⟨i0, hi0⟩ : ∃ k, k = i := ⟨_, rfl⟩
    subst hi0
    by_cases h1000 : 1000 < s.size
    · have hq : decide ((1000 : Int) < (s.size : Int)) = true := decide_eq_true (by omega)
      clear h1000
      go_wp2_with fail
      refine (KL _).mono ?_
      rintro e w1 ⟨rfl, hb1⟩
      go_wp2_with fail
      go_ret
      exact ⟨rfl, hb.out.trans (hb1.mono hb.out.size)⟩
    have hq : decide ((1000 : Int) < (s.size : Int)) = false := decide_eq_false (by omega)
    have H1000 : Hid (s.size ≤ 1000) := Lib.hid (by omega)
    clear h1000
    go_wp2_with fail
    clear hq hin
    go_loopw [25] (fun s' W => ∃ i : Nat, s' = .int .i64 i ∧ i ≤ s.size ∧ Hid (Below w.heap.size w W)) (fun s' _ => s.size - (intOf s').toNat)
    case atStart => exact ⟨0, rfl, by omega, hb⟩
    case round =>
      clear hb
      obtain ⟨i, rfl, hi, hb⟩ := hrel
      by_cases hlt : i < s.size
      · have hlt' : (i : Int) < (s.size : Int) := Int.ofNat_lt.2 hlt
        have b0 : (0 : Int) ≤ (i : Int) := Int.natCast_nonneg i
        have hw := i_next (p := i) (by have := H1000.out; omega)
        have HLT := Lib.hid hlt
        by_cases h1 : 65 ≤ (s[i]'hlt).toNat
        · have t1 : decide ((65 : Int) ≤ ((s[i]'hlt).toNat : Int)) = true := decide_eq_true (by omega)
          by_cases h2 : (s[i]'hlt).toNat ≤ 90
          · have t2 : decide (((s[i]'hlt).toNat : Int) ≤ 90) = true := decide_eq_true (by omega)
            have K1 := KN.out s
            rw [cap_no (byte_at s hlt) h1 h2] at K1
            clear h1 h2 hi
            go_wp2_with fail
            refine (K1 _).mono ?_
            rintro e w1 ⟨rfl, hb1⟩
            have HB2 := Lib.hid (hb.out.trans (hb1.mono hb.out.size))
            clear hb hb1
            go_wp2_with fail
            go_roundw
            case rel => exact ⟨i + 1, by go_num, by have := HLT.out; omega, HB2⟩
            case measure => have := HLT.out; simp [intOf]; omega
          · have t2 : decide (((s[i]'hlt).toNat : Int) ≤ 90) = false := decide_eq_false (by omega)
            clear h1 h2 hi
            go_wp2_with fail
            go_roundw
            case rel => exact ⟨i + 1, by go_num, by have := HLT.out; omega, hb⟩
            case measure => have := HLT.out; simp [intOf]; omega
        · have t1 : decide ((65 : Int) ≤ ((s[i]'hlt).toNat : Int)) = false := decide_eq_false (by omega)
          clear h1 hi
          go_wp2_with fail
          go_roundw
          case rel => exact ⟨i + 1, by go_num, by have := HLT.out; omega, hb⟩
          case measure => have := HLT.out; simp [intOf]; omega
      have hin : ¬ ((i : Int) < (s.size : Int)) := by omega
      clear hlt hi
      have K1 := KN.out s
      have K2 := KN.out (s ++ (⟨#[57]⟩ : ByteArray))
      have hs1 : (s ++ (⟨#[57]⟩ : ByteArray)).size ≤ 10000 := by
        rw [ByteArray.size_append]
        have : (⟨#[57]⟩ : ByteArray).size = 1 := rfl
        have := H1000.out
        omega
      have K3 := KW.out (s ++ (⟨#[57]⟩ : ByteArray)) hs1
      rw [app_toList] at K2 K3
      have hadd : ∀ W, (Op.stringOp .add s ⟨#[57]⟩).run Try.prog W = .ok (.string (s ++ (⟨#[57]⟩ : ByteArray))) W := fun W => run_string_add_sum W s _ (by
        have : (⟨#[57]⟩ : ByteArray).size = 1 := rfl
        have := H1000.out
        omega)
      have H9 := Lib.hid (fun (h : nameL s.data.toList = true) (hl : s.data.toList.length ≠ 16) => nine_name h hl)
      have hsl := size_len s
      generalize wordL (s.data.toList ++ [57]) = b3 at *
      generalize nameL (s.data.toList ++ [57]) = b2 at *
      generalize nameL s.data.toList = b1 at *
      rw [hsl] at H9
      clear hsl hs1
      cases b1
      · clear K2 K3 H9
        go_wp2_with fail
        refine (K1 _).mono ?_
        rintro e w1 ⟨rfl, hb1⟩
        have HB1 := Lib.hid (hb.out.trans (hb1.mono hb.out.size))
        clear hb hb1 K1
        go_wp2_with fail
        refine (KL _).mono ?_
        rintro e w2 ⟨rfl, hb2⟩
        go_wp2_with fail
        go_ret
        exact ⟨rfl, HB1.out.trans (hb2.mono HB1.out.size)⟩
      by_cases h16 : s.size = 16
      · have t16 : ((s.size : Int) == 16) = true := by rw [beq_iff_eq]; omega
        clear K2 K3 H9 h16
        go_wp2_with fail
        refine (K1 _).mono ?_
        rintro e w1 ⟨rfl, hb1⟩
        have HB1 := Lib.hid (hb.out.trans (hb1.mono hb.out.size))
        clear hb hb1 K1
        go_wp2_with fail
        refine (KL _).mono ?_
        rintro e w2 ⟨rfl, hb2⟩
        go_wp2_with fail
        go_ret
        exact ⟨rfl, HB1.out.trans (hb2.mono HB1.out.size)⟩
      have t16 : ((s.size : Int) == 16) = false := by rw [beq_eq_false_iff_ne]; omega
      have hor := H9.out rfl h16
      clear H9 h16
      cases b2
      · obtain rfl : b3 = true := by simpa using hor
        clear hor
        go_wp2_with fail
        refine (K1 _).mono ?_
        rintro e w1 ⟨rfl, hb1⟩
        have HB1 := Lib.hid (hb.out.trans (hb1.mono hb.out.size))
        clear hb hb1 K1
        go_wp2_with fail
        refine (K2 _).mono ?_
        rintro e w2 ⟨rfl, hb2⟩
        have HB2 := Lib.hid (HB1.out.trans (hb2.mono HB1.out.size))
        clear hb2 K2 HB1
        go_wp2_with fail
        refine (K3 _).mono ?_
        rintro e w3 ⟨rfl, rfl⟩
        go_wp2_with fail
        refine (KL _).mono ?_
        rintro e w4 ⟨rfl, hb4⟩
        go_wp2_with fail
        go_ret
        exact ⟨rfl, HB2.out.trans (hb4.mono HB2.out.size)⟩
      · clear hor K3
        go_wp2_with fail
        refine (K1 _).mono ?_
        rintro e w1 ⟨rfl, hb1⟩
        have HB1 := Lib.hid (hb.out.trans (hb1.mono hb.out.size))
        clear hb hb1 K1
        go_wp2_with fail
        refine (K2 _).mono ?_
        rintro e w2 ⟨rfl, hb2⟩
        have HB2 := Lib.hid (HB1.out.trans (hb2.mono HB1.out.size))
        clear hb2 K2 HB1
        go_wp2_with fail
        refine (KL _).mono ?_
        rintro e w4 ⟨rfl, hb4⟩
        go_wp2_with fail
        go_ret
        exact ⟨rfl, HB2.out.trans (hb4.mono HB2.out.size)⟩
end Go.Proofs.Ytjlpmhjnfgmmcaa
