/- The texts VbGuess VbParse VbBack VbLaid, one behind the other; each one's own comment says what it holds. -/
import Derived.Test.YtbijpjoljljlpaaGreatDoorValueBackRowGC
import Derived.Test.YtbijpjoljljlpaaGreatDoorTie
import Derived.ProofKit
import Derived.LaidMore
import Derived.LaidLaws
import Derived.Lay
import Derived.SevenTiedAt
import Derived.Stop.Joined
import Derived.ShutString
import Derived.ChangeOld
/- What a text says: contracts of value.guess and value.Parse at the texts of good values. Conditions: as in XVbText. -/
set_option maxRecDepth 100000
namespace Go.Proofs.YtbijpjoljljlpaaGreatDoor
open Go.RowKit Go.Maps Go.Sort Go.Lib

theorem print_chars (N : Int) : ∀ c ∈ printL N, c = 45 ∨ isD c := fun c hc => by
  unfold printL at hc
  split at hc
  · rcases List.mem_cons.1 hc with h | h
    · exact .inl h
    · exact .inr (digs_isD _ c h)
  · exact .inr (digs_isD _ c hc)
theorem not_print {l : List UInt8} {c : UInt8} (hc : c ∈ l) (h : ¬ (c = 45 ∨ isD c)) (N : Int) : l ≠ printL N := fun e => h (print_chars N c (e ▸ hc))
theorem no_float_print (N : Int) : NoFloat (printL N) := fun y _ e => by
  rcases pr_cases y with ⟨_, e2⟩ | ⟨_, e2⟩ | ⟨_, e2⟩ | ⟨_, _, _, e2⟩ <;> rw [e2] at e
  · exact not_print (c := 78) (by simp) (by unfold isD; decide) N e
  · exact not_print (c := 73) (by simp) (by unfold isD; decide) N e
  · exact not_print (c := 73) (by simp) (by unfold isD; decide) N e
  · exact not_print (c := 102) (by simp) (by unfold isD; decide) N e
/-- none of a float's beginnings -/
theorem no_float_head {c : UInt8} {r : List UInt8} (h : c ≠ 78 ∧ c ≠ 73 ∧ c ≠ 45 ∧ c ≠ 48) : NoFloat (c :: r) := fun y _ e => by
  rcases pr_cases y with ⟨_, e2⟩ | ⟨_, e2⟩ | ⟨_, e2⟩ | ⟨_, _, _, e2⟩ <;> rw [e2] at e
  · exact h.1 (List.cons.inj e).1.symm
  · exact h.2.1 (List.cons.inj e).1.symm
  · exact h.2.2.1 (List.cons.inj e).1.symm
  · exact h.2.2.2 (List.cons.inj e).1.symm
theorem no_float_null : NoFloat [78, 85, 76, 76] := fun y _ e => by
  rcases pr_cases y with ⟨_, e2⟩ | ⟨_, e2⟩ | ⟨_, e2⟩ | ⟨_, _, _, e2⟩ <;> rw [e2] at e <;> simp at e
theorem order_no {l : List UInt8} (h : NoFloat l) {x : Nat} {ok : Bool} (hp : ParseP l x ok) : ok = false ∧ x = 0 := by
  rcases hp.2 with ⟨_, e, _⟩ | ⟨h1, h2, _⟩
  · exact absurd e (h x hp.1)
  · exact ⟨h1, h2⟩
theorem order_yes {u : Nat} (hu : u < 18446744073709551616) (hc : canonW u = u) {x : Nat} {ok : Bool} (hp : ParseP (prW u) x ok) : ok = true ∧ x = u := by
  rcases hp.2 with ⟨h1, _, _, h3⟩ | ⟨_, _, h⟩
  · exact ⟨h1, (h3 u hu rfl).trans hc⟩
  · exact absurd rfl (h u hu)
/-- the order's answer at a text that no float has -/
theorem oparse_no {l : List UInt8} (hl : l.length ≤ 4000000) (hn : NoFloat l) {w : World} (hv : Lv w) : Calls Tryz.prog 23 #[.string ⟨l.toArray⟩] w fun e w' => e = .returned (.tuple #[.int .i64 0, .bool false]) ∧ Below w.heap.size w w' := by
  refine (parse_any ⟨l.toArray⟩ (by rw [Lib.size_eq]; show l.length ≤ _; omega) hv.1).mono ?_
  rintro e w' ⟨x, ok, rfl, hp, hb⟩
  obtain ⟨rfl, rfl⟩ := order_no hn hp
  exact ⟨rfl, hb⟩
theorem wparse_no {l : List UInt8} (hl : l.length ≤ 4000000) (hn : ∀ N, l ≠ printL N) (w : World) : Calls Tryz.prog 24 #[.string ⟨l.toArray⟩] w fun e w' => (∃ h q, e = .returned (.tuple #[.agg #[.int .i64 h, .int .u64 q], .bool false])) ∧ Below w.heap.size w w' := by
  refine (Wide.parse_any ⟨l.toArray⟩ (by rw [Lib.size_eq]; show l.length < _; omega) w).mono ?_
  rintro e w' ⟨N, b, rfl, hb, h1, h2⟩
  cases b
  · exact ⟨⟨_, _, rfl⟩, hb⟩
  · exact absurd (h1 rfl).2 (hn N)
theorem wparse_yes (n : Int) (h0 : -9223372036854775808 ≤ n) (h1 : n < 9223372036854775808) (hl : (printL n).length ≤ 4000000) (w : World) : Calls Tryz.prog 24 #[.string ⟨(printL n).toArray⟩] w fun e w' => e = .returned (.tuple #[Wide.wv n, .bool true]) ∧ Below w.heap.size w w' := by
  have hf : Wide.fitW n = true := Wide.fit_iff.2 (by omega)
  refine (Wide.parse_any ⟨(printL n).toArray⟩ (by rw [Lib.size_eq]; show (printL n).length < _; omega) w).mono ?_
  rintro e w' ⟨N, b, rfl, hb, h2, h3⟩
  cases b
  · exact absurd rfl ((h3 rfl).2 n hf)
  · have := Wide.print_inj (h2 rfl).2
    subst this
    exact ⟨rfl, hb⟩
theorem fits_int (n : Int) (h0 : -9223372036854775808 ≤ n) (h1 : n < 9223372036854775808) (w : World) : Calls Tryz.prog 25 #[Wide.wv n] w fun e w' => (∃ b, e = .returned (.tuple #[.int .i64 n, .bool b])) ∧ Below w.heap.size w w' := by
  obtain ⟨e1, e2, e3⟩ := Wide.w_split n
  refine (Wide.fits_any (Wide.hiW n) (Wide.loW n) w e2 e3).mono ?_
  rintro e w' ⟨rfl, hb⟩
  rw [e1]
  refine ⟨⟨Wide.fit64 n, ?_⟩, hb⟩
  have : Wide.int64 n = n := by
    unfold Wide.int64
    rw [Wide.fit64_iff.2 ⟨h0, h1⟩, if_pos rfl]
  rw [this]
/-- at a text that is neither a float's nor a number's -/
theorem guess_float (u : Nat) (hu : u < 18446744073709551616) (hc : canonW u = u) (hl : (prW u).length ≤ 4000000) {w : World} (hv : Lv w) :
    Calls Tryz.prog 16 #[.string ⟨(prW u).toArray⟩] w fun e w' => e = .returned (.iface 52 (.int .i64 (iw u))) ∧ Below w.heap.size w w' := by
  have KP : Calls Tryz.prog 23 #[.string ⟨(prW u).toArray⟩] w fun e w' => e = .returned (.tuple #[.int .i64 (iw u), .bool true]) ∧ Below w.heap.size w w' := by
    refine (parse_any ⟨(prW u).toArray⟩ (by rw [Lib.size_eq]; show (prW u).length ≤ _; omega) hv.1).mono ?_
    rintro e w' ⟨x, ok, rfl, hp, hb⟩
    obtain ⟨rfl, rfl⟩ := order_yes hu hc hp
    exact ⟨rfl, hb⟩
  generalize (⟨(prW u).toArray⟩ : ByteArray) = S at *
  generalize iw u = n at *
  clear hu hc hl hv
  go_enter Tryz.func16, Tryz.ntmps16
  go_wp2_with fail
  refine KP.mono ?_
  rintro e w1 ⟨rfl, hb⟩
  go_wp2_with fail
  go_ret
  exact ⟨rfl, hb⟩
theorem guess_int (n : Int) (h0 : -9223372036854775808 ≤ n) (h1 : n < 9223372036854775808) (hl : (printL n).length ≤ 4000000) {w : World} (hv : Lv w) :
    Calls Tryz.prog 16 #[.string ⟨(printL n).toArray⟩] w fun e w' => e = .returned (.iface 55 (.int .i64 n)) ∧ Below w.heap.size w w' := by
  have KP := oparse_no hl (no_float_print n) hv
  have KW := fun w => wparse_yes n h0 h1 hl w
  have KF := fun w => fits_int n h0 h1 w
  unfold Wide.wv at KW KF
  generalize (⟨(printL n).toArray⟩ : ByteArray) = S at *
  generalize Wide.hiW n = H at *
  generalize Wide.loW n = L at *
  clear h0 h1 hl hv
  go_enter Tryz.func16, Tryz.ntmps16
  go_wp2_with fail
  refine KP.mono ?_
  rintro e w1 ⟨rfl, hb1⟩
  go_wp2_with fail
  refine (KW _).mono ?_
  rintro e w2 ⟨rfl, hb2⟩
  have HB2 := Lib.hid (hb1.trans (hb2.mono hb1.size))
  clear hb1 hb2 KP KW
  go_wp2_with fail
  refine (KF _).mono ?_
  rintro e w3 ⟨⟨b, rfl⟩, hb3⟩
  have HB3 := Lib.hid ((HB2.out.alloc HB2.out.size (.cells #[.int .i64 H, .int .u64 L] 61)).trans (hb3.mono (by have := HB2.out.size; simp; omega)))
  clear hb3 KF
  go_wp2_with fail
  go_ret
  exact ⟨rfl, HB3.out⟩
theorem guess_str (s : ByteArray) (hs : s.size ≤ 1000000) {w : World} (hv : Lv w) :
    Calls Tryz.prog 16 #[.string ⟨(39 :: (dbl s.data.toList ++ [39])).toArray⟩] w fun e w' => e = .returned (.iface 53 (.string s)) ∧ Below w.heap.size w w' := by
  have hdl := dbl_len s.data.toList
  have hsl : s.data.toList.length = s.size := (Lib.size_eq s).symm
  have hl : (39 :: (dbl s.data.toList ++ [39])).length ≤ 4000000 := by simp only [List.length_cons, List.length_append, List.length_nil]; omega
  have KP := oparse_no hl (no_float_head (c := 39) (by decide)) hv
  have KW := fun w => wparse_no hl (fun N => not_print (c := 39) (by simp) (by unfold isD; decide) N) w
  have KC := fun w => Tryz.strings_CutPrefix ⟨(39 :: (dbl s.data.toList ++ [39])).toArray⟩ ⟨#[39]⟩ w
  have KT := fun w => Tryz.strings_TrimSuffix ⟨(dbl s.data.toList ++ [39]).toArray⟩ ⟨#[39]⟩ w (by rw [Lib.size_eq]; show (dbl s.data.toList ++ [39]).length ≤ _; simp only [List.length_append, List.length_cons, List.length_nil]; omega)
  obtain ⟨m, hm⟩ := hv.2
  have hq2 : (⟨#[39, 39]⟩ : ByteArray).size = 2 := rfl
  have hq1 : (⟨#[39]⟩ : ByteArray).size = 1 := rfl
  have hdz : (⟨(dbl s.data.toList).toArray⟩ : ByteArray).size ≤ 2000000 := by rw [Lib.size_eq]; show (dbl s.data.toList).length ≤ _; omega
  have hcn := Lib.countB_mul_le ⟨#[39, 39]⟩ (by decide) _ ⟨(dbl s.data.toList).toArray⟩ (Nat.le_refl _)
  rw [hq2] at hcn
  have KR := fun w hm => Tryz.strings_ReplaceAll ⟨(dbl s.data.toList).toArray⟩ ⟨#[39, 39]⟩ ⟨#[39]⟩ m w (by omega) hm (by decide) (by rw [hq1]; omega)
  have e1 : Lib.replaceAll (⟨(dbl s.data.toList).toArray⟩ : ByteArray).data.toList (⟨#[39, 39]⟩ : ByteArray).data.toList (⟨#[39]⟩ : ByteArray).data.toList = s.data.toList := quote_back s.data.toList
  have e2 : (⟨s.data.toList.toArray⟩ : ByteArray) = s := by rw [Array.toArray_toList]
  simp only [e1, e2] at KR
  clear e1 e2 hdz hcn hq1 hq2 hdl hsl hl hv
  generalize dbl s.data.toList = D at *
  have c1 : Lib.trimPrefix (⟨(39 :: (D ++ [39])).toArray⟩ : ByteArray).data.toList (⟨#[39]⟩ : ByteArray).data.toList = D ++ [39] := by simp [Lib.trimPrefix, Lib.hasPrefix, List.isPrefixOf]
  have c2 : Lib.hasPrefix (⟨(39 :: (D ++ [39])).toArray⟩ : ByteArray).data.toList (⟨#[39]⟩ : ByteArray).data.toList = true := by simp [Lib.hasPrefix, List.isPrefixOf]
  have c3 : Lib.trimSuffix (⟨(D ++ [39]).toArray⟩ : ByteArray).data.toList (⟨#[39]⟩ : ByteArray).data.toList = D := by simp [Lib.trimSuffix, Lib.hasSuffix]
  simp only [c1, c2] at KC
  simp only [c3] at KT
  clear c1 c2 c3 hs
  generalize (⟨(39 :: (D ++ [39])).toArray⟩ : ByteArray) = S at *
  generalize (⟨(D ++ [39]).toArray⟩ : ByteArray) = S2 at *
  generalize (⟨D.toArray⟩ : ByteArray) = S3 at *
  go_enter Tryz.func16, Tryz.ntmps16
  go_wp2_with fail
  refine KP.mono ?_
  rintro e w1 ⟨rfl, hb1⟩
  go_wp2_with fail
  refine (KW _).mono ?_
  rintro e w2 ⟨⟨h, q, rfl⟩, hb2⟩
  have hB2 := hb1.trans (hb2.mono hb1.size)
  have hB3 := hB2.alloc hB2.size (.cells #[.int .i64 h, .int .u64 q] 61)
  have hm3 : (w2.alloc (.cells #[.int .i64 h, .int .u64 q] 61)).cell? ⟨0, 0, none⟩ = some (.int .i64 m) := by rw [hB3.cell (World.block_lt_of_cell? _ _ hm)]; exact hm
  have HB3 := Lib.hid hB3
  clear hb1 hb2 KP KW hB2 hB3 hm
  go_wp2_with fail
  refine (KC _).mono ?_
  rintro e w3 ⟨rfl, rfl⟩
  go_wp2_with fail
  refine (KT _).mono ?_
  rintro e w3 ⟨rfl, rfl⟩
  go_wp2_with fail
  refine (KR _ hm3).mono ?_
  rintro e w3 ⟨rfl, hb3⟩
  have HB4 := Lib.hid (HB3.out.trans (hb3.mono HB3.out.size))
  clear hb3 KR KC KT hm3
  go_wp2_with fail
  go_ret
  exact ⟨rfl, HB4.out⟩
theorem guess_word (l : List UInt8) (c : Value) (hc : (l = [78, 85, 76, 76] ∧ c = .iface 51 (.agg #[])) ∨ (l = [84, 82, 85, 69] ∧ c = .iface 56 (.int .i64 1)) ∨ (l = [70, 65, 76, 83, 69] ∧ c = .iface 56 (.int .i64 0))) {w : World} (hv : Lv w) :
    Calls Tryz.prog 16 #[.string ⟨l.toArray⟩] w fun e w' => e = .returned c ∧ Below w.heap.size w w' := by
  have hl : l.length ≤ 4000000 := by rcases hc with ⟨rfl, _⟩ | ⟨rfl, _⟩ | ⟨rfl, _⟩ <;> decide
  have hf : NoFloat l := by
    rcases hc with ⟨rfl, _⟩ | ⟨rfl, _⟩ | ⟨rfl, _⟩
    · exact no_float_null
    · exact no_float_head (by decide)
    · exact no_float_head (by decide)
  have hp : ∀ N, l ≠ printL N := fun N => by
    rcases hc with ⟨rfl, _⟩ | ⟨rfl, _⟩ | ⟨rfl, _⟩
    · exact not_print (c := 78) (by simp) (by unfold isD; decide) N
    · exact not_print (c := 84) (by simp) (by unfold isD; decide) N
    · exact not_print (c := 70) (by simp) (by unfold isD; decide) N
  have KP := oparse_no hl hf hv
  have KW := fun w => wparse_no hl hp w
  have KC := fun w => Tryz.strings_CutPrefix ⟨l.toArray⟩ ⟨#[39]⟩ w
  have c2 : Lib.hasPrefix (⟨l.toArray⟩ : ByteArray).data.toList (⟨#[39]⟩ : ByteArray).data.toList = false := by
    rcases hc with ⟨rfl, _⟩ | ⟨rfl, _⟩ | ⟨rfl, _⟩ <;> decide
  simp only [c2] at KC
  rcases hc with ⟨e1, e2⟩ | ⟨e1, e2⟩ | ⟨e1, e2⟩
  · have d1 : ((⟨l.toArray⟩ : ByteArray).toList == [84, 82, 85, 69]) = false := by rw [Lib.toList_data, e1]; decide
    have d2 : ((⟨l.toArray⟩ : ByteArray).toList == [70, 65, 76, 83, 69]) = false := by rw [Lib.toList_data, e1]; decide
    subst e2
    clear e1 c2 hp hf hl
    generalize Lib.trimPrefix (⟨l.toArray⟩ : ByteArray).data.toList (⟨#[39]⟩ : ByteArray).data.toList = T at *
    generalize (⟨l.toArray⟩ : ByteArray) = S at *
    go_enter Tryz.func16, Tryz.ntmps16
    go_wp2_with fail
    refine KP.mono ?_
    rintro e w1 ⟨rfl, hb1⟩
    go_wp2_with fail
    refine (KW _).mono ?_
    rintro e w2 ⟨⟨h, q, rfl⟩, hb2⟩
    have hB2 := hb1.trans (hb2.mono hb1.size)
    have HB3 := Lib.hid (hB2.alloc hB2.size (.cells #[.int .i64 h, .int .u64 q] 61))
    clear hb1 hb2 KP KW hB2
    go_wp2_with fail
    refine (KC _).mono ?_
    rintro e w3 ⟨rfl, rfl⟩
    go_wp2_with fail
    go_ret
    exact ⟨rfl, HB3.out⟩
  · have d1 : ((⟨l.toArray⟩ : ByteArray).toList == [84, 82, 85, 69]) = true := by rw [Lib.toList_data, e1]; decide
    have d2 : ((⟨l.toArray⟩ : ByteArray).toList == [70, 65, 76, 83, 69]) = false := by rw [Lib.toList_data, e1]; decide
    subst e2
    clear e1 c2 hp hf hl
    generalize Lib.trimPrefix (⟨l.toArray⟩ : ByteArray).data.toList (⟨#[39]⟩ : ByteArray).data.toList = T at *
    generalize (⟨l.toArray⟩ : ByteArray) = S at *
    go_enter Tryz.func16, Tryz.ntmps16
    go_wp2_with fail
    refine KP.mono ?_
    rintro e w1 ⟨rfl, hb1⟩
    go_wp2_with fail
    refine (KW _).mono ?_
    rintro e w2 ⟨⟨h, q, rfl⟩, hb2⟩
    have hB2 := hb1.trans (hb2.mono hb1.size)
    have HB3 := Lib.hid (hB2.alloc hB2.size (.cells #[.int .i64 h, .int .u64 q] 61))
    clear hb1 hb2 KP KW hB2
    go_wp2_with fail
    refine (KC _).mono ?_
    rintro e w3 ⟨rfl, rfl⟩
    go_wp2_with fail
    go_ret
    exact ⟨rfl, HB3.out⟩
  · have d1 : ((⟨l.toArray⟩ : ByteArray).toList == [84, 82, 85, 69]) = false := by rw [Lib.toList_data, e1]; decide
    have d2 : ((⟨l.toArray⟩ : ByteArray).toList == [70, 65, 76, 83, 69]) = true := by rw [Lib.toList_data, e1]; decide
    subst e2
    clear e1 c2 hp hf hl
    generalize Lib.trimPrefix (⟨l.toArray⟩ : ByteArray).data.toList (⟨#[39]⟩ : ByteArray).data.toList = T at *
    generalize (⟨l.toArray⟩ : ByteArray) = S at *
    go_enter Tryz.func16, Tryz.ntmps16
    go_wp2_with fail
    refine KP.mono ?_
    rintro e w1 ⟨rfl, hb1⟩
    go_wp2_with fail
    refine (KW _).mono ?_
    rintro e w2 ⟨⟨h, q, rfl⟩, hb2⟩
    have hB2 := hb1.trans (hb2.mono hb1.size)
    have HB3 := Lib.hid (hB2.alloc hB2.size (.cells #[.int .i64 h, .int .u64 q] 61))
    clear hb1 hb2 KP KW hB2
    go_wp2_with fail
    refine (KC _).mono ?_
    rintro e w3 ⟨rfl, rfl⟩
    go_wp2_with fail
    go_ret
    exact ⟨rfl, HB3.out⟩
/-- what a good value's text says is that value -/
theorem guess_good {x : VV} (hg : x.good = true) (hi : x.inI) (hl : (textL x.k x.n x.s).length ≤ 4000000) {w : World} (hv : Lv w) :
    Calls Tryz.prog 16 #[.string ⟨(textL x.k x.n x.s).toArray⟩] w fun e w' => e = .returned (ctV x.k x.n x.s) ∧ Below w.heap.size w w' := by
  obtain ⟨k, n, s⟩ := x
  simp only at hl ⊢
  have hgv : goodV k n s = true := hg
  rcases good_cases hg with e | ⟨e1, e2⟩ | ⟨e1, e2⟩ | ⟨e1, e2, e3⟩ | ⟨e1, e2⟩
  · cases e
    exact guess_word _ _ (.inl ⟨rfl, rfl⟩) hv
  · simp only at e1 e2
    subst e1
    have et : textL 1 n s = printL n := by unfold textL; rw [if_neg (by decide), if_pos rfl]
    have ec : ctV 1 n s = .iface 55 (.int .i64 n) := by unfold ctV; rw [if_neg (by decide), if_pos rfl]
    rw [et] at hl ⊢
    rw [ec]
    exact guess_int n hi.1 hi.2 hl hv
  · simp only at e1 e2
    subst e1
    have et : textL 2 n s = prW (wi n) := by unfold textL; rw [if_neg (by decide), if_neg (by decide), if_pos rfl]
    have ec : ctV 2 n s = .iface 52 (.int .i64 n) := by unfold ctV; rw [if_neg (by decide), if_neg (by decide), if_pos rfl]
    have hw : goodW (wi n) = true := by
      unfold goodV at hgv
      rw [if_neg (by decide), if_neg (by decide), if_pos rfl, Bool.and_eq_true] at hgv
      exact hgv.1
    rw [et] at hl ⊢
    rw [ec]
    have := guess_float (wi n) (wi_lt n) (by unfold goodW at hw; exact of_decide_eq_true hw) hl hv
    rwa [iw_wi n hi.1 hi.2] at this
  · simp only at e1 e2 e3
    subst e1
    have et : textL 3 n s = 39 :: (dbl s.data.toList ++ [39]) := by unfold textL; rw [if_neg (by decide), if_neg (by decide), if_neg (by decide), if_pos rfl]
    have ec : ctV 3 n s = .iface 53 (.string s) := by unfold ctV; rw [if_neg (by decide), if_neg (by decide), if_neg (by decide), if_pos rfl]
    rw [et, ec]
    exact guess_str s (Nat.le_trans e3 (by decide)) hv
  · simp only at e1 e2
    subst e1
    have ec : ctV 4 n s = .iface 56 (.int .i64 n) := by unfold ctV; rw [if_neg (by decide), if_neg (by decide), if_neg (by decide), if_neg (by decide), if_pos rfl]
    have et : textL 4 n s = if n = 0 then [70, 65, 76, 83, 69] else [84, 82, 85, 69] := by unfold textL; rw [if_neg (by decide), if_neg (by decide), if_neg (by decide), if_neg (by decide), if_pos rfl]
    have hn : n = 0 ∨ n = 1 := by
      unfold goodV at hgv
      rw [if_neg (by decide), if_neg (by decide), if_neg (by decide), if_neg (by decide), if_pos rfl, Bool.and_eq_true, Bool.or_eq_true] at hgv
      rcases hgv.1 with h | h
      · exact .inl (eq_of_beq h)
      · exact .inr (eq_of_beq h)
    rw [et, ec]
    rcases hn with rfl | rfl
    · exact guess_word _ _ (.inr (.inr ⟨rfl, rfl⟩)) hv
    · exact guess_word _ _ (.inr (.inl ⟨rfl, rfl⟩)) hv
/-- a good value is what its content says -/
theorem of_content {x : VV} (hg : x.good = true) (w : World) : Calls Tryz.prog 15 #[ctV x.k x.n x.s] w fun e w' => e = .returned (vv x.k x.n x.s) ∧ Below w.heap.size w w' := by
  obtain ⟨k, n, s⟩ := x
  simp only
  rcases good_cases hg with e | ⟨e1, e2⟩ | ⟨e1, e2⟩ | ⟨e1, e2, e3⟩ | ⟨e1, e2⟩
  · cases e; exact of_null w
  · simp only at e1 e2; subst e1 e2
    have ec : ctV 1 n ⟨#[]⟩ = .iface 55 (.int .i64 n) := by unfold ctV; rw [if_neg (by decide), if_pos rfl]
    rw [ec]; exact of_int n w
  · simp only at e1 e2; subst e1 e2
    have ec : ctV 2 n ⟨#[]⟩ = .iface 52 (.int .i64 n) := by unfold ctV; rw [if_neg (by decide), if_neg (by decide), if_pos rfl]
    rw [ec]; exact of_float n w
  · simp only at e1 e2; subst e1 e2
    have ec : ctV 3 0 s = .iface 53 (.string s) := by unfold ctV; rw [if_neg (by decide), if_neg (by decide), if_neg (by decide), if_pos rfl]
    rw [ec]; exact of_str s w
  · simp only at e1 e2; subst e1 e2
    have ec : ctV 4 n ⟨#[]⟩ = .iface 56 (.int .i64 n) := by unfold ctV; rw [if_neg (by decide), if_neg (by decide), if_neg (by decide), if_neg (by decide), if_pos rfl]
    rw [ec]; exact of_truth n w
end Go.Proofs.YtbijpjoljljlpaaGreatDoor
/- Parse undoes Text: contract of value.Parse at the text of a good value. Conditions: as in XVbText. -/
set_option maxRecDepth 100000
namespace Go.Proofs.YtbijpjoljljlpaaGreatDoor
open Go.RowKit Go.Maps Go.Sort Go.Lib

theorem text_len {x : VV} (hg : x.good = true) (hl : (textL x.k x.n x.s).length ≤ 4000000) : x.s.size ≤ 1000000 := by
  rcases good_cases hg with rfl | ⟨_, e⟩ | ⟨_, e⟩ | ⟨_, _, e⟩ | ⟨_, e⟩
  · decide
  · rw [e]; decide
  · rw [e]; decide
  · omega
  · rw [e]; decide
set_option maxHeartbeats 1600000 in
theorem parse_good {x : VV} (hg : x.good = true) (hi : x.inI) (hl : (textL x.k x.n x.s).length ≤ 4000000) {w : World} (hv : Lv w) :
    Calls Tryz.prog 6 #[.string ⟨(textL x.k x.n x.s).toArray⟩] w fun e w' => e = .returned (.tuple #[vv x.k x.n x.s, .bool true]) ∧ Below w.heap.size w w' := by
  have hb1 := (Below.refl w.heap.size w).alloc (Nat.le_refl _) (.cells #[.int .i64 0, .int .i64 0, .string ⟨#[]⟩] 25)
  have KG := guess_good hg hi hl (hv.below hb1)
  have KO := fun w => of_content hg w
  have KV := fun w => vgood_any x.k x.n x.s hi.1 hi.2 w
  have hgv : goodV x.k x.n x.s = true := hg
  rw [hgv] at KV
  have KT := fun w hv => vtext_any x.k x.n x.s (goodV_kind hg) (text_len hg hl) hi.1 hi.2 w hv
  have hz : (w.alloc (.cells #[.int .i64 0, .int .i64 0, .string ⟨#[]⟩] 25)).heap.size = w.heap.size + 1 := by simp
  generalize (⟨(textL x.k x.n x.s).toArray⟩ : ByteArray) = S at *
  generalize ctV x.k x.n x.s = C at *
  obtain ⟨k, n, s⟩ := x
  simp only at *
  have HV := Lib.hid hv
  have hss : (S.toList == S.toList) = true := by simp
  clear hg hi hl hgv hv hb1
  go_enter Tryz.func6, Tryz.ntmps6
  go_wp2_with fail
  refine KG.mono ?_
  rintro e w2 ⟨rfl, hb2⟩
  rw [hz] at hb2
  have B2 := Lib.hid hb2
  clear hb2 KG
  go_wp2_with fail
  refine (KO _).mono ?_
  rintro e w3 ⟨rfl, hb3⟩
  have B3 := Lib.hid (good_next B2.out hb3)
  have hz3 : w.heap.size + 1 ≤ w3.heap.size := by have := B3.out.size; rw [hz] at this; exact this
  have B3' := Lib.hid (B3.out.alloc hz3 (.cells #[.int .i64 k, .int .i64 n, .string s] 25))
  clear hb3 KO B2
  go_wp2_with fail
  refine (KV _).mono ?_
  rintro e w4 ⟨rfl, hb4⟩
  have hv4 := C3.keep (C3.new w3 (.int .i64 k) (.int .i64 n) (.string s) 25) hb4 (by simp)
  have B4 := Lib.hid (good_next B3'.out hb4)
  have hl4 : w3.heap.size < w4.heap.size := World.block_lt_of_cell? _ _ hv4.1
  have HV4 := HV.out.below ((good_state B4.out).2)
  have HC4 := Lib.hid hv4
  obtain ⟨k1, k2, k3⟩ := hv4
  clear hb4 KV B3 B3'
  go_wp2_with fail
  refine (KT _ HV4).mono ?_
  rintro e w5 ⟨rfl, hb5⟩
  have B5 := Lib.hid (good_next B4.out hb5)
  have hv5 := HC4.out.keep hb5 hl4
  clear k1 k2 k3
  obtain ⟨k1, k2, k3⟩ := hv5
  have hR := (good_state B5.out).1
  have hRc : C3 w5 w.heap.size (.int .i64 0) (.int .i64 0) (.string ⟨#[]⟩) := hR
  obtain ⟨r1, r2, r3⟩ := hR
  obtain ⟨z1, z2, z3⟩ := frz3 B5.out (by omega)
  have hr1 := fun u => (hRc.set u u u).1
  have hr2 := fun u v => (hRc.set u v v).2.1
  have hr3 := fun u v t => (hRc.set u v t).2.2
  have HB := Lib.hid (below_set3 (good_state B5.out).2 (Nat.le_refl _))
  clear hb5 KT B4 B5 HV HV4 HC4 hRc
  go_wp2_with fail
  refine bodyPost_ret (v := .tuple #[vv k n s, .bool true]) ?_ rfl ⟨rfl, HB.out _ _ _⟩
  simp [results, Tryz.results6, go_sem, hr1, hr2, hr3]
end Go.Proofs.YtbijpjoljljlpaaGreatDoor
/- The walk of ValueBack. Conditions: the tables and error variables of the library as its text lays them. -/
set_option maxRecDepth 100000
namespace Go.Proofs.YtbijpjoljljlpaaGreatDoor
open Go.RowKit Go.Maps Go.Sort Go.Lib

theorem print_len {n : Int} (h0 : -9223372036854775808 ≤ n) (h1 : n < 9223372036854775808) : (printL n).length ≤ 21 := by
  have h := digs_len 19 n.natAbs (by have : (10 : Nat) ^ (19 + 1) = 100000000000000000000 := by decide
                                     omega)
  unfold printL
  split
  · rw [List.length_cons]; omega
  · omega
theorem pr_len (u : Nat) : (prW u).length ≤ 18 := by
  rcases pr_cases u with ⟨_, e⟩ | ⟨_, e⟩ | ⟨_, e⟩ | ⟨_, _, _, e⟩ <;> rw [e]
  · decide
  · decide
  · decide
  · rw [List.length_append, hexN_len]; decide
theorem textL_len {x : VV} (hg : x.good = true) (hi : x.inI) : (textL x.k x.n x.s).length ≤ 4000000 := by
  have h1 := print_len hi.1 hi.2
  have h2 := pr_len (wi x.n)
  have h3 := dbl_len x.s.data.toList
  have h4 : x.s.size ≤ 64 := by
    rcases good_cases hg with rfl | ⟨_, e⟩ | ⟨_, e⟩ | ⟨_, _, e⟩ | ⟨_, e⟩
    · decide
    · rw [e]; decide
    · rw [e]; decide
    · exact e
    · rw [e]; decide
  have h5 := Lib.size_eq x.s
  unfold textL
  split
  · decide
  · split
    · omega
    · split
      · omega
      · split
        · simp only [List.length_cons, List.length_append, List.length_nil]; omega
        · split
          · split <;> decide
          · decide
theorem bytesV_len {l : List VV} (h : ∀ x ∈ l, x.good = true ∧ x.inI) (hl : l.length ≤ 300) : (bytesV l).length ≤ 1000000 := by
  have h1 := flatV_len l (fun x hx => (h x hx).2)
  have h2 := dig_len10 (u := l.length) (by omega)
  unfold bytesV
  rw [List.length_append]; omega
theorem load_back {l : List VV} (h : ∀ x ∈ l, x.good = true ∧ x.inI) (hl : l.length ≤ 300) : loadV (bytesV l) = some l :=
  (load_iff (by have := bytesV_len h hl; omega)).2 ⟨h, by omega, rfl⟩
theorem le_next {a i : Nat} (h : a ≤ i) : a + 1 ≤ i + 1 := by omega
theorem le_keep {a i : Nat} (h : a ≤ i) : a ≤ i + 1 := by omega
theorem acc_le {a i n : Nat} (h : a ≤ i) (h2 : i < n) (h3 : n ≤ 300) : a ≤ 1000000000000 := by omega
set_option maxHeartbeats 3200000 in
theorem back_walk {w : World} {v0 : Value} {vs : List VV} (hV : HoldsV w v0 vs) (hi : ∀ x ∈ vs, x.inI) (hv : Lv w) :
    Calls Tryz.prog 3 #[v0] w fun e w' => e = .returned (.bool true) ∧ Below w.heap.size w w' := by
  have KL := fun w (h : Lv w) => lives_any w h.2
  obtain ⟨a, c, rfl, hc⟩ := hV.form
  by_cases hbig : 300 < vs.length
  · have t0 : decide ((300 : Int) < (vs.length : Int)) = true := decide_eq_true (by omega)
    generalize vs.length = n at *
    clear hbig hV hi hc
    go_enter Tryz.func3, Tryz.ntmps3
    go_wp2_with fail
    refine (KL _ hv).mono ?_
    rintro e w1 ⟨rfl, hb⟩
    go_wp2_with fail
    go_ret
    exact ⟨rfl, hb⟩
  have t0 : decide ((300 : Int) < (vs.length : Int)) = false := decide_eq_false (by omega)
  have H := Lib.hid hV
  have HI := Lib.hid hi
  obtain ⟨n, hn⟩ : ∃ n, n = vs.length := ⟨_, rfl⟩
  rw [← hn] at t0 hc hbig ⊢
  have HNL := Lib.hid hn
  have HL := Lib.hid (Nat.le_of_not_lt hbig)
  have HV := Lib.hid hv
  have KN := neq_val
  have KU := guard_val
  clear hV hi hn hbig hv
  go_enter Tryz.func3, Tryz.ntmps3
  go_wp2_with fail
  go_loopw [3, 5, 6, 7, 16] (fun s3 _ _ _ s16 wr => ∃ (i : Nat) (v : Value) (acc : List VV), s16 = .int .i64 i ∧ i ≤ n ∧ v = s3 ∧ acc.length ≤ i ∧ Hid (OutV w wr v acc) ∧ Hid (∀ x ∈ acc, x.good = true ∧ x.inI)) (fun _ _ _ _ k _ => n - (RowKit.intOf k).toNat)
  case atStart => exact ⟨0, _, [], rfl, Nat.zero_le _, rfl, Nat.le_refl _, Lib.hid (OutV.nil w), Lib.hid (fun x hx => absurd hx (by simp))⟩
  case round =>
    clear t0
    obtain ⟨i, v, acc, rfl, hin, rfl, hal, HO, HG⟩ := hrel
    by_cases hlt : i < n
    · obtain ⟨x, hx⟩ : ∃ x, vs[i]? = some x := ⟨vs[i]'(HNL.out ▸ hlt), List.getElem?_eq_getElem _⟩
      obtain ⟨ad, rfl, hc0⟩ := H.out.at_ hx
      have hxi : x.inI := HI.out x (List.mem_of_getElem? hx)
      have HCW : ∀ w', Below w.heap.size w w' → w'.cell? (ad.add (i * 3)) = some (.int .i64 x.k) ∧ w'.cell? ⟨(ad.add (i * 3)).block, (ad.add (i * 3)).off + 1, none⟩ = some (.int .i64 x.n) ∧ w'.cell? ⟨(ad.add (i * 3)).block, (ad.add (i * 3)).off + 2, none⟩ = some (.string x.s) := fun w' hb =>
        ⟨by rw [hb.cell (World.block_lt_of_cell? _ _ hc0.1)]; exact hc0.1, by rw [hb.cell (World.block_lt_of_cell? _ _ hc0.2.1)]; exact hc0.2.1, by rw [hb.cell (World.block_lt_of_cell? _ _ hc0.2.2)]; exact hc0.2.2⟩
      obtain ⟨d0, d1, d2⟩ := HCW wr HO.out.2
      have b0 : (0 : Int) ≤ (i : Int) := Int.natCast_nonneg i
      have b1 : (i : Int) < (n : Int) := Int.ofNat_lt.2 hlt
      have hw64 := wi_next hlt (Nat.le_trans HL.out (by decide))
      have KG := vgood_any x.k x.n x.s hxi.1 hxi.2
      have hlx := le_next hal
      have hlk := le_keep hal
      have hla := acc_le hal hlt HL.out
      clear HCW hc0 hx
      cases hgx : goodV x.k x.n x.s
      · obtain ⟨xk, xn, xs⟩ := x
        simp only at d0 d1 d2 KG hgx
        rw [hgx] at KG
        clear hgx hxi hla hlx
        go_wp2_with fail
        refine (KG _).mono ?_
        rintro e w3 ⟨rfl, hb3⟩
        have hbz : Below wr.heap.size wr w3 := ((Below.refl _ _).alloc (Nat.le_refl _) _).trans (hb3.mono (show wr.heap.size ≤ _ by simp))
        have HO3 := Lib.hid (HO.out.next hbz)
        clear hb3 hbz KG d0 d1 d2 HO
        go_wp2_with fail
        go_roundw
        case rel => exact ⟨i + 1, _, _, by go_num, hlt, rfl, hlk, HO3, HG⟩
        case measure => simp [RowKit.intOf]; omega
      · have hgd : x.good = true := hgx
        have htl := textL_len hgd hxi
        have KT := Lib.hid (fun (w : World) (h : Lv w) => vtext_any x.k x.n x.s (goodV_kind hgd) (text_len hgd htl) hxi.1 hxi.2 w h)
        have KP := Lib.hid (fun (w : World) (h : Lv w) => parse_good hgd hxi htl h)
        have HG2 : Hid (∀ y ∈ acc ++ [x], y.good = true ∧ y.inI) := Lib.hid (fun y hy => by
          rcases List.mem_append.1 hy with hy | hy
          · exact HG.out y hy
          · simp at hy; subst hy; exact ⟨hgd, hxi⟩)
        have HAP := Lib.hid (fun w0 v0 (ho : OutV w w0 v0 acc) => ho.app x hla)
        have HLX : Hid ((acc ++ [x]).length ≤ i + 1) := Lib.hid (by rw [List.length_append]; exact hlx)
        generalize (⟨(textL x.k x.n x.s).toArray⟩ : ByteArray) = S at *
        generalize acc ++ [x] = acc2 at *
        rw [hgx] at KG
        clear hgd hgx htl hxi hla hlx
        obtain ⟨xk, xn, xs⟩ := x
        simp only at d0 d1 d2 KG KT KP HAP
        go_wp2_with fail
        refine (KG _).mono ?_
        rintro e w3 ⟨rfl, hb3⟩
        have hbz : Below wr.heap.size wr w3 := ((Below.refl _ _).alloc (Nat.le_refl _) _).trans (hb3.mono (show wr.heap.size ≤ _ by simp))
        have HC3 := Lib.hid ((C3.new wr (.int .i64 xk) (.int .i64 xn) (.string xs) 25).keep hb3 (by simp))
        have HO3 := Lib.hid (HO.out.next hbz)
        obtain ⟨k1, k2, k3⟩ := HC3.out
        have KT3 := KT.out w3 (HV.out.below HO3.out.2)
        clear hb3 hbz KG d0 d1 d2 HO KT
        go_wp2_with fail
        refine KT3.mono ?_
        rintro e w4 ⟨rfl, hb4⟩
        have HC4 := Lib.hid (HC3.out.keep hb4 (World.block_lt_of_cell? _ _ k1))
        have HO4 := Lib.hid (HO3.out.next hb4)
        have KP4 := KP.out w4 (HV.out.below HO4.out.2)
        clear k1 k2 k3 hb4 KT3 HC3 HO3 KP
        obtain ⟨k1, k2, k3⟩ := HC4.out
        go_wp2_with fail
        refine KP4.mono ?_
        rintro e w5 ⟨rfl, hb5⟩
        have HC5 := HC4.out.keep hb5 (World.block_lt_of_cell? _ _ k1)
        have HO5 := HO4.out.next hb5
        have hl5 := World.block_lt_of_cell? _ _ HC5.1
        have HO6 := HO5.next ((Below.refl _ _).alloc (Nat.le_refl _) (.cells #[.int .i64 xk, .int .i64 xn, .string xs] 25))
        have HC6 := HC5.keep ((Below.refl w5.heap.size w5).alloc (Nat.le_refl _) (.cells #[.int .i64 xk, .int .i64 xn, .string xs] 25)) hl5
        obtain ⟨v7, w7, r7, O7⟩ := HAP.out _ _ HO6
        have hz : (w5.alloc (.cells #[.int .i64 xk, .int .i64 xn, .string xs] 25)).heap.size = w5.heap.size + 1 := by simp
        rw [hz] at r7
        have R7 := Lib.hid r7
        have HO7 := Lib.hid O7
        clear k1 k2 k3
        obtain ⟨k1, k2, k3⟩ := HC6
        obtain ⟨j1, j2, j3⟩ := HC5
        clear hb5 HC4 HO4 KP4 HO5 HO6 r7 O7 hz HAP
        go_wp2_with (at_builtin; refine wpList_append_run rfl _ _ 22 rfl rfl rfl (R7.out _) ?_)
        go_roundw
        case rel => exact ⟨i + 1, _, _, by go_num, hlt, rfl, HLX.out, HO7, HG2⟩
        case measure => simp [RowKit.intOf]; omega
    · have hei : i = n := end_eq hin hlt
      have ha3 : acc.length ≤ 300 := Nat.le_trans hal (hei ▸ HL.out)
      have hlb := load_back HG.out ha3
      have KB := vbytes_any (holdsV_of_owns HO.out.1) (Nat.le_trans ha3 (by decide)) (fun x hx => (HG.out x hx).2)
      have hbl := bytesV_len HG.out ha3
      have HLD := Lib.hid (fun (w0 : World) (v0 : Value) (h0 : Holds w0 v0 (u8s (bytesV acc))) => vload_any h0 hbl)
      have HA3 := Lib.hid (Nat.le_trans ha3 (by decide : 300 ≤ 1000000))
      have HOV := Lib.hid (holdsV_of_owns HO.out.1)
      generalize bytesV acc = Bs at *
      clear hei ha3 hbl hal hin HG H HI
      go_wp2_with fail
      refine KB.mono ?_
      rintro e w2 ⟨v2, rfl, ho, hb2⟩
      have KD := HLD.out w2 v2 (Holds.of_row (by rw [u8s_len]; exact ho))
      have HB2 := Lib.hid (HO.out.2.trans (hb2.mono HO.out.2.size))
      have HOV2 := Lib.hid (HOV.out.below hb2)
      clear ho hb2 KB HLD HOV
      go_wp2_with fail
      refine KD.mono ?_
      rintro e w3 ⟨⟨x1, hx1⟩, hb3⟩
      obtain ⟨rfl, hvx⟩ : e = .returned (.tuple #[x1, .int .i64 0]) ∧ HoldsV w3 x1 acc := by
        rcases hx1 with ⟨ws, e1, e2, e3⟩ | ⟨e1, _, _⟩
        · rw [hlb] at e1
          cases e1
          exact ⟨e3, e2⟩
        · rw [hlb] at e1; cases e1
      have HB3 := Lib.hid (HB2.out.trans (hb3.mono HB2.out.size))
      have KS := same_vals hvx (HOV2.out.below hb3) HA3.out
      clear hx1 hb3 KD HB2 HOV2 hvx hlb
      go_wp2_with fail
      refine KS.mono ?_
      rintro e w4 ⟨rfl, hb4⟩
      have HB4 := Lib.hid (HB3.out.trans (hb4.mono HB3.out.size))
      clear hb4 KS HB3
      go_wp2_with fail
      refine (KL _ (HV.out.below HB4.out)).mono ?_
      rintro e w5 ⟨rfl, hb5⟩
      have HB5 := Lib.hid (HB4.out.trans (hb5.mono HB4.out.size))
      clear hb5
      go_wp2_with fail
      go_ret
      exact ⟨rfl, HB5.out⟩
end Go.Proofs.YtbijpjoljljlpaaGreatDoor
/- The tables and error variables of the library, from the row's condition to their cells; a world that meets it; the shape of the row's first world beside what is laid. Conditions: none. -/
set_option maxRecDepth 100000
namespace Go.Proofs.YtbijpjoljljlpaaGreatDoor
open Go.ChangeShapes Go.WideShapes Go.ChangeAt Go.RowKit

abbrev laidV : List (String × DataW Unit) := [("math/bits.deBruijn32tab", Rows.laid_math_bits_deBruijn32tab), ("math/bits.deBruijn64tab", Rows.laid_math_bits_deBruijn64tab), ("internal/strconv.uint64pow10", Rows.laid_internal_strconv_uint64pow10), ("unicode/utf8.acceptRanges", Rows.laid_unicode_utf8_acceptRanges), ("strconv.ErrRange", Rows.laid_strconv_ErrRange), ("strconv.ErrSyntax", Rows.laid_strconv_ErrSyntax), ("unicode/utf8.first", Rows.laid_unicode_utf8_first)]
theorem tab_of {W : World} {g t : Nat} {cs : Array Value} {fuel : Nat} {p : List MemPlace} (hg : Tryz.prog.globalNamed "math/bits.deBruijn64tab" = some g) (ht : (Tryz.prog.globals[g]?).map (·.type) = some t) (hv : W.var? Tryz.prog "math/bits.deBruijn64tab" = some cs)
    (hd : DataW.trod (fun _ => ()) Tryz.prog W 0 (fun _ => true) false fuel t cs.toList = some (Rows.laid_math_bits_deBruijn64tab, p)) : Tab W := by
  obtain rfl := Option.some.inj ((show Tryz.prog.globalNamed "math/bits.deBruijn64tab" = some 8 by kernel_rfl).symm.trans hg)
  obtain rfl := Option.some.inj ((show (Tryz.prog.globals[8]?).map (·.type) = some 155 by kernel_rfl).symm.trans ht)
  obtain ⟨xs, m, _, ex, _, hl, hel⟩ := DataW.trod_array Tryz.underlying155 hd
  have c5 : Tryz.prog.cellsOf 5 = 1 := by kernel_rfl
  have hE := hel 15 (by omega)
  rw [c5, Nat.mul_one, List.getElem?_eq_getElem (by omega)] at hE
  obtain ⟨z, e1, e2, _⟩ := DataW.trod_int Tryz.underlying5 hE
  have e3 : DataW.agg (xs.map (·.1)) = Rows.laid_math_bits_deBruijn64tab := (Prod.mk.inj ex).1.symm
  have e4 : (match (Rows.laid_math_bits_deBruijn64tab : DataW Unit) with | .agg l => l[15]? | _ => none) = some (.lit (.int .u8 4)) := rfl
  rw [← e3] at e4
  simp only [List.getElem?_map, List.getElem?_eq_getElem (show 15 < xs.length by omega), Option.map_some, Option.some.injEq] at e4
  have e5 := e4.symm.trans (congrArg Prod.fst e2)
  have hz : z = 4 := by
    simp only [DataW.lit.injEq, Lit.int.injEq, true_and] at e5
    exact e5.symm
  unfold Tab
  rw [World.var?_cell hg hv 15]
  have : cs.toList[15]? = some (.int .u8 z) := by
    have h0 : ((cs.toList.drop 15).take 1)[0]? = some (.int .u8 z) := by rw [e1]; rfl
    simpa using h0
  rw [hz] at this
  simpa using this
theorem err_of {W : World} {n : String} {k g t : Nat} {cs : Array Value} {fuel : Nat} {p : List MemPlace} {name : String} {d : DataW Unit} (hn : Tryz.prog.globalNamed n = some k) (hk : (Tryz.prog.globals[k]?).map (·.type) = some 90) (hg : Tryz.prog.globalNamed n = some g) (ht : (Tryz.prog.globals[g]?).map (·.type) = some t) (hv : W.var? Tryz.prog n = some cs)
    (hd : DataW.trod (fun _ => ()) Tryz.prog W 0 (fun _ => true) false fuel t cs.toList = some (.iface name d, p)) : ∃ v, W.cell? ⟨k, 0, none⟩ = some v ∧ IsErr v := by
  obtain rfl := Option.some.inj (hn.symm.trans hg)
  obtain rfl := Option.some.inj (hk.symm.trans ht)
  obtain ⟨_, u, v, e, _, _⟩ := iface_of_trod Tryz.underlying90 hd
  refine ⟨.iface u v, ?_, .inr ⟨u, v, rfl⟩⟩
  rw [World.var?_cell hg hv 0, ← Array.getElem?_toList, e]
  rfl
theorem vars_of_laidV {W : World} (h : laidMetH Tryz.prog laidV W) : Vars W := by
  rw [MakeChecks.laidMetH_plain _ _ _ (by kernel_rfl)] at h
  obtain ⟨ps, ⟨_, _, _, _, _, _, _, _, _, _, ⟨g, t, cs, fuel, p, q, hg, ht, hv, hd, ⟨_, _, _, _, _, _, _, _, _, _, ⟨_, _, _, _, _, _, _, _, _, _, ⟨g1, t1, cs1, fuel1, p1, q1, hg1, ht1, hv1, hd1, ⟨g2, t2, cs2, fuel2, p2, q2, hg2, ht2, hv2, hd2, _, _⟩, _⟩, _⟩, _⟩, _⟩, _⟩, _, _⟩ := h
  exact ⟨tab_of hg ht hv hd, err_of (by kernel_rfl) (by kernel_rfl) hg2 ht2 hv2 hd2, err_of (by kernel_rfl) (by kernel_rfl) hg1 ht1 hv1 hd1⟩
theorem laid_metV (os : Os) (args : Array Value) : laidMetH Tryz.prog laidV ((World.laidAll Tryz.prog os laidV).forCall (fun _ _ => 0) ⟨#[], args, []⟩).memory := by
  rw [MakeChecks.laidMetH_plain _ _ _ (by kernel_rfl)]; exact laidMet_laidAll _ (by kernel_rfl) (by kernel_rfl)
/-- a row's first world: what is laid, and its shape -/
theorem handed_laid_shaped {H : Type} {enc : TypeId × Value → H} {a : Assume} {C : Checked} {os : Os} {f : FuncId} {fn : Func} {s : ChangeSpec} {conds : List PathCond} {apart fresh handsOn again : Bool} {X : World → Array Value → Prop}
    (hX : ∀ (w w' : World) (args : Array Value), w.heap = w'.heap → X w args → X w' args)
    (own : ownKnob C.prog.godebug = none) (started : os.Started) (noInit : C.prog.inits.idxOf? f = none) (hfn : C.prog.funcs[f]? = some fn)
    (witness : ∃ (w : World) (tape : Tape) (i : Input), w.os = os ∧ (w.forCall tape i).Shaped C.prog ∧ i.vars = [] ∧ Input.okWide C.prog (w.forCall tape i) .any w.heap.size f i ∧
      ((s.pre enc C.prog fn conds apart (w.forCall tape i).memory i.args ∧ X (w.forCall tape i).memory i.args) ∧ sizedMet enc C.prog fn (OpenSpec.ofChange s) apart (w.forCall tape i).memory i.args) ∧ a.holds C.prog (lone (Frame.enter C.prog f i.args .normal) [] (w.forCall tape i)))
    (contract : ∀ (W : World) (base : Nat) (args : Array Value) (ds gs : List (DataW H)) (before : List MemPlace),
      (∀ (j : Nat) t v, fn.params[j]? = some t → args[j]? = some v → Value.okWide C.prog W .any base t v) →
      DataW.Whole enc C.prog fn.params.toList s.vars apart W args.toList ds gs before →
      conds.all (PathCond.test C.prog ⟨fn.params.toList, ds, s.plain.varTypes C.prog, gs⟩) = true → X W args → W.ShapedOpen C.prog →
      Calls C.prog f args W fun e W' => ∃ v, e = .returned v ∧ s.post enc C.prog fn apart fresh handsOn again W args v W') :
    ReturnsInHanded a C os f .any (fun w args => (s.pre enc C.prog fn conds apart w args ∧ X w args) ∧ sizedMet enc C.prog fn (OpenSpec.ofChange s) apart w args) (s.post enc C.prog fn apart fresh handsOn again) := by
  refine returnsInHanded_of_calls own started noInit witness fun w tape i _ hsh _ hok hpre _ => ?_
  obtain ⟨_, _, _, fn', hfn', _, _, _, _, hval⟩ := hok
  obtain rfl : fn' = fn := Option.some.inj (hfn'.symm.trans hfn)
  obtain ⟨⟨⟨ds, gs, before, hw, hc⟩, hx⟩, _⟩ := hpre
  exact (contract (w.forCall tape i) w.heap.size i.args ds gs before hval (DataW.Whole.of_heap (w' := w.forCall tape i) (by rfl) hw) hc (hX _ _ _ (by rfl) hx) hsh).mono fun e W' ⟨v, he, hp⟩ => by
    subst he
    exact ChangeSpec.post_blind hp
end Go.Proofs.YtbijpjoljljlpaaGreatDoor
