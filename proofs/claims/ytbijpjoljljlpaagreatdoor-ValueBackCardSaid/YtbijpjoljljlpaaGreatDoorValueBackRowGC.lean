/- The texts Parse WideS WideJ VbText, one behind the other; each one's own comment says what it holds. -/
import Derived.Test.YtbijpjoljljlpaaGreatDoorWideM
import Derived.Test.YtbijpjoljljlpaaGreatDoorValueBackRowGB
import Derived.Test.YtbijpjoljljlpaaGreatDoorValueBackRowGA
import Derived.Test.YtbijpjoljljlpaaGreatDoorWideA
import Derived.Test.YtbijpjoljljlpaaGreatDoorVbQuote
import Derived.Test.YtbijpjoljljlpaaGreatDoorVbMain
import Derived.Test.YtbijpjoljljlpaaGreatDoorOrderK
/- What texts of numbers say: plain mathematics. Conditions: none. -/
set_option maxRecDepth 100000
namespace Go.Proofs.YtbijpjoljljlpaaGreatDoor.Wide
open Go.RowKit

theorem digs_no45 (m : Nat) : (digs m).head? ≠ some 45 := by
  intro h
  cases hd : digs m with
  | nil => exact digs_ne m hd
  | cons c k =>
    rw [hd] at h
    have hc := digs_isD m c (by rw [hd]; simp)
    have e : c = 45 := by simpa using h
    have := hc.1
    rw [e] at this
    have h45 : (45 : UInt8).toNat = 45 := rfl
    omega
/-- a text with its sign taken off -/
def Cut (l k : List UInt8) (neg : Bool) : Prop := (neg = true ∧ l = 45 :: k) ∨ (neg = false ∧ l = k ∧ l.head? ≠ some 45)
theorem cut_of (l : List UInt8) : Cut l (Lib.trimPrefix l [45]) (Lib.hasPrefix l [45]) := by
  cases l with
  | nil => exact .inr ⟨rfl, rfl, by simp⟩
  | cons c k =>
    by_cases h : c = 45
    · subst h; exact .inl ⟨by simp [Lib.hasPrefix, List.isPrefixOf], by simp [Lib.trimPrefix, Lib.hasPrefix, List.isPrefixOf]⟩
    · have hb : (45 == c) = false := by rw [beq_eq_false_iff_ne]; exact fun e => h e.symm
      refine .inr ⟨by simp [Lib.hasPrefix, List.isPrefixOf, hb], by simp [Lib.trimPrefix, Lib.hasPrefix, List.isPrefixOf, hb], by simpa using h⟩
/-- no number is told so -/
def NoText (l : List UInt8) : Prop := ∀ M, fitW M = true → l ≠ printL M
theorem cut_no {l k : List UInt8} {neg : Bool} (hc : Cut l k neg) (h : ∀ m, m < 340282366920938463463374607431768211456 → k ≠ digs m) : NoText l := by
  intro M hf e
  have hf := fit_iff.1 hf
  rcases hc with ⟨_, hl⟩ | ⟨_, hl, hh⟩
  · rcases Int.lt_or_le M 0 with hm | hm
    · rw [print_neg hm, hl] at e
      exact h M.natAbs (by omega) (List.cons.inj e).2
    · rw [print_pos hm, hl] at e
      exact digs_no45 M.natAbs (by rw [← e]; rfl)
  · rcases Int.lt_or_le M 0 with hm | hm
    · rw [print_neg hm] at e
      exact hh (by rw [e]; rfl)
    · rw [print_pos hm, hl] at e
      exact h M.natAbs (by omega) e
theorem cut_yes {l k : List UInt8} {neg : Bool} {m : Nat} (hc : Cut l k neg) (hk : k = digs m) (h : sgnOk (m : Int) neg = true) : fitW (sgnW (m : Int) neg) = true ∧ l = printL (sgnW (m : Int) neg) := by
  unfold sgnW
  rw [h, if_pos rfl]
  rcases hc with ⟨rfl, hl⟩ | ⟨rfl, hl, _⟩
  · unfold sgnOk at h
    rw [if_pos rfl, decide_eq_true_iff] at h
    rw [if_pos rfl]
    exact ⟨fit_iff.2 (by omega), by rw [print_neg (by omega), hl, hk, show (-(m : Int)).natAbs = m by omega]⟩
  · unfold sgnOk at h
    rw [if_neg (by decide), decide_eq_true_iff] at h
    rw [if_neg (by decide)]
    exact ⟨fit_iff.2 (by omega), by rw [print_pos (by omega), hl, hk, show (m : Int).natAbs = m by omega]⟩
theorem cut_not {l k : List UInt8} {neg : Bool} {m : Nat} (hc : Cut l k neg) (hk : k = digs m) (h : sgnOk (m : Int) neg = false) : sgnW (m : Int) neg = 0 ∧ NoText l := by
  refine ⟨by unfold sgnW; rw [h, if_neg (by decide)], fun M hf e => ?_⟩
  have hf := fit_iff.1 hf
  rcases hc with ⟨rfl, hl⟩ | ⟨rfl, hl, hh⟩
  · unfold sgnOk at h
    rw [if_pos rfl, decide_eq_false_iff_not] at h
    rcases Int.lt_or_le M 0 with hm | hm
    · rw [print_neg hm, hl, hk] at e
      have := digs_inj (List.cons.inj e).2
      omega
    · rw [print_pos hm, hl] at e
      exact digs_no45 M.natAbs (by rw [← e]; rfl)
  · unfold sgnOk at h
    rw [if_neg (by decide), decide_eq_false_iff_not] at h
    rcases Int.lt_or_le M 0 with hm | hm
    · rw [print_neg hm] at e
      exact hh (by rw [e]; rfl)
    · rw [print_pos hm, hl, hk] at e
      have := digs_inj e
      omega
/-- what a parser answers -/
def ParseP (l : List UInt8) (w : World) (e : Ending) (w' : World) : Prop :=
  ∃ (N : Int) (b : Bool), e = .returned (.tuple #[wv N, .bool b]) ∧ Below w.heap.size w w' ∧ (b = true → fitW N = true ∧ l = printL N) ∧ (b = false → N = 0 ∧ NoText l)
theorem print_inj {A B : Int} (h : printL A = printL B) : A = B := by
  rcases Int.lt_or_le A 0 with ha | ha <;> rcases Int.lt_or_le B 0 with hb | hb
  · rw [print_neg ha, print_neg hb] at h
    have := digs_inj (List.cons.inj h).2
    omega
  · rw [print_neg ha, print_pos hb] at h
    exact absurd (by rw [← h]; rfl) (digs_no45 B.natAbs)
  · rw [print_pos ha, print_neg hb] at h
    exact absurd (by rw [h]; rfl) (digs_no45 A.natAbs)
  · rw [print_pos ha, print_pos hb] at h
    have := digs_inj h
    omega
/-- two parsers answer alike -/
theorem parse_alike {l : List UInt8} {N M : Int} {b c : Bool} (h1 : b = true → fitW N = true ∧ l = printL N) (h2 : b = false → N = 0 ∧ NoText l) (h3 : c = true → fitW M = true ∧ l = printL M) (h4 : c = false → M = 0 ∧ NoText l) : N = M ∧ b = c := by
  cases b <;> cases c
  · exact ⟨by rw [(h2 rfl).1, (h4 rfl).1], rfl⟩
  · exact absurd (h3 rfl).2 ((h2 rfl).2 M (h3 rfl).1)
  · exact absurd (h1 rfl).2 ((h4 rfl).2 N (h1 rfl).1)
  · exact ⟨print_inj ((h1 rfl).2.symm.trans (h3 rfl).2), rfl⟩
end Go.Proofs.YtbijpjoljljlpaaGreatDoor.Wide
/- Contract of Parse. Conditions: the text is no longer than any string. -/
set_option maxRecDepth 100000
namespace Go.Proofs.YtbijpjoljljlpaaGreatDoor.Wide
open Go.RowKit

theorem trim_len (l : List UInt8) : (Lib.trimPrefix l [45]).length ≤ l.length := by
  unfold Lib.trimPrefix
  split
  · rw [List.length_drop]; omega
  · exact Nat.le_refl _
theorem p1_res {w w' : World} {c0 c1 : Value} (hb : Below (w.heap.size + 1) (w.alloc (.cells #[c0, c1] 61)) w') : w'.cell? ⟨w.heap.size, 0, none⟩ = some c0 ∧ w'.cell? ⟨w.heap.size, 1, none⟩ = some c1 ∧ w'.frozen? ⟨w.heap.size, 0, none⟩ = false ∧ w'.frozen? ⟨w.heap.size, 1, none⟩ = false := c1_cells hb
theorem p1_alloc {w w' : World} {o : Obj} (hb : Below (w.heap.size + 1) (w.alloc o) w') (o' : Obj) : Below (w.heap.size + 1) (w.alloc o) (w'.alloc o') := by
  have hz := hb.size
  rw [World.size_alloc] at hz
  exact hb.alloc hz o'
set_option maxHeartbeats 1600000 in
theorem parse_any (s : ByteArray) (hsz : s.size < 9223372036854775807) (w : World) : Calls Tryz.prog 24 #[.string s] w (ParseP s.data.toList w) := by
  have KC := fun w => Tryz.strings_CutPrefix s ⟨#[45]⟩ w
  have hcut := cut_of s.data.toList
  have hlen := trim_len s.data.toList
  rw [← str_size] at hlen
  rw [show (⟨#[45]⟩ : ByteArray).data.toList = [45] from rfl] at KC
  generalize s.data.toList = l at hcut KC hlen ⊢
  generalize Lib.trimPrefix l [45] = k at hcut KC hlen
  generalize Lib.hasPrefix l [45] = neg at hcut KC
  have hks : (⟨k.toArray⟩ : ByteArray).size = k.length := by rw [str_size]
  have KR := fun w => read_any ⟨k.toArray⟩ (by omega) w
  rw [show (⟨k.toArray⟩ : ByteArray).data.toList = k from rfl] at KR
  have KS : ∀ (T S : Nat), T < 18446744073709551616 → S < 18446744073709551616 → ∀ w, Calls Tryz.prog 39 #[.agg #[.int .u64 (T : Int), .int .u64 (S : Int)], .bool neg] w fun e w' => e = .returned (.tuple #[wv (sgnW ((T * 18446744073709551616 + S : Nat) : Int) neg), .bool (sgnOk ((T * 18446744073709551616 + S : Nat) : Int) neg)]) ∧ Below w.heap.size w w' := fun T S hT hS w => by
    have e : ((T : Int) * 18446744073709551616 + (S : Int)) = ((T * 18446744073709551616 + S : Nat) : Int) := by omega
    cases neg
    · have K := signed_pos (T : Int) (S : Int) w (by omega) (by omega) (by omega) (by omega)
      rw [e] at K; exact K
    · have K := signed_neg (T : Int) (S : Int) w (by omega) (by omega) (by omega) (by omega)
      rw [e] at K; exact K
  have HC := Lib.hid hcut
  clear hcut hlen hks hsz
  go_enter Tryz.func24, Tryz.ntmps24
  go_wp2_with fail
  refine (KC _).mono ?_
  rintro e w' ⟨rfl, rfl⟩
  go_wp2_with fail
  refine (KR _).mono ?_
  rintro e w1 ⟨T, S, b, rfl, b1, hT, hS, hyes, hno⟩
  have d1 := o1_next (Below.refl _ _) b1
  cases b with
  | false =>
    have HNo := Lib.hid (cut_no HC.out (hno rfl))
    have d2 := p1_alloc d1 (.cells #[.int .u64 (T : Int), .int .u64 (S : Int)] 78)
    have hres := p1_res d2
    have hr1 := fun u => (set_two hres.1 hres.2.1 u u).1
    have hr2 := fun u v => (set_two hres.1 hres.2.1 u v).2
    clear b1 KS KR KC hyes hno
    go_wp2_with fail
    refine bodyPost_ret (v := .tuple #[.agg #[.int .i64 0, .int .u64 0], .bool false]) (by simp [results, Tryz.results24, go_sem, hr1, hr2]) rfl ⟨0, false, rfl, o1_set (o1_done d2) _ _, (fun h => by cases h), fun _ => ⟨rfl, HNo.out⟩⟩
  | true =>
    have hk := hyes rfl
    have K := KS T S hT hS
    have HA : ∀ b, sgnOk ((T * 18446744073709551616 + S : Nat) : Int) neg = b → (b = true → fitW (sgnW ((T * 18446744073709551616 + S : Nat) : Int) neg) = true ∧ l = printL (sgnW ((T * 18446744073709551616 + S : Nat) : Int) neg)) ∧ (b = false → sgnW ((T * 18446744073709551616 + S : Nat) : Int) neg = 0 ∧ NoText l) := fun b hb => ⟨fun h => cut_yes HC.out hk (hb.trans h), fun h => cut_not HC.out hk (hb.trans h)⟩
    generalize sgnW ((T * 18446744073709551616 + S : Nat) : Int) neg = N at K HA
    generalize sgnOk ((T * 18446744073709551616 + S : Nat) : Int) neg = ok at K HA
    have HF := Lib.hid (HA ok rfl)
    unfold wv at K
    obtain ⟨x, hx⟩ : ∃ x, hiW N = x := ⟨_, rfl⟩
    obtain ⟨y, hy⟩ : ∃ x, loW N = x := ⟨_, rfl⟩
    rw [hx, hy] at K
    have HX := Lib.hid (And.intro hx hy)
    clear HA hx hy KS KR KC hyes hno hk
    go_wp2_with fail
    refine (K _).mono ?_
    rintro e w2 ⟨rfl, b2⟩
    have d3 := o1_next (p1_alloc d1 (.cells #[.int .u64 (T : Int), .int .u64 (S : Int)] 78)) b2
    have hres := p1_res d3
    have hr1 := fun u => (set_two hres.1 hres.2.1 u u).1
    have hr2 := fun u v => (set_two hres.1 hres.2.1 u v).2
    have HB := Lib.hid (o1_set (o1_done d3))
    clear b1 b2 d1 d3 K
    go_wp2_with fail
    refine bodyPost_ret (v := .tuple #[.agg #[.int .i64 x, .int .u64 y], .bool ok]) (by simp [results, Tryz.results24, go_sem, hr1, hr2]) rfl ⟨N, ok, by rw [← HX.out.1, ← HX.out.2], HB.out _ _, HF.out.1, HF.out.2⟩
end Go.Proofs.YtbijpjoljljlpaaGreatDoor.Wide
/- Contracts of Fits on both sides. Conditions: none. -/
set_option maxRecDepth 100000
namespace Go.Proofs.YtbijpjoljljlpaaGreatDoor.Wide
open Go.RowKit

def fit64 (N : Int) : Bool := decide (-9223372036854775808 ≤ N ∧ N < 9223372036854775808)
def int64 (N : Int) : Int := if fit64 N then N else 0
theorem fit64_iff {N : Int} : fit64 N = true ↔ -9223372036854775808 ≤ N ∧ N < 9223372036854775808 := by unfold fit64; exact decide_eq_true_iff
theorem fit64_not {N : Int} : fit64 N = false ↔ N < -9223372036854775808 ∨ 9223372036854775808 ≤ N := by unfold fit64; rw [decide_eq_false_iff_not]; omega
theorem c1_all {w w' : World} {a0 a1 : Value} (hb : Below (w.heap.size + 1) (w.alloc (.cells #[a0, a1] 61)) w') :
    w'.cell? ⟨w.heap.size, 0, none⟩ = some a0 ∧ w'.cell? ⟨w.heap.size, 1, none⟩ = some a1 ∧ Below (w.heap.size + 1) (w.alloc (.cells #[a0, a1] 61)) w' := by
  refine ⟨?_, ?_, hb⟩
  · rw [hb.cell (p := ⟨w.heap.size, 0, none⟩) (by simp)]; go_simp
  · rw [hb.cell (p := ⟨w.heap.size, 1, none⟩) (by simp)]; go_simp
theorem c1_keep {w w' w1 : World} {a0 a1 : Value} (hk : Below w'.heap.size w' w1) (h : w'.cell? ⟨w.heap.size, 0, none⟩ = some a0 ∧ w'.cell? ⟨w.heap.size, 1, none⟩ = some a1 ∧ Below (w.heap.size + 1) (w.alloc (.cells #[a0, a1] 61)) w') :
    w1.cell? ⟨w.heap.size, 0, none⟩ = some a0 ∧ w1.cell? ⟨w.heap.size, 1, none⟩ = some a1 ∧ Below (w.heap.size + 1) (w.alloc (.cells #[a0, a1] 61)) w1 := by
  have hz := h.2.2.size
  rw [World.size_alloc] at hz
  exact c1_all (h.2.2.trans (hk.mono hz))
theorem c1_done {w w' : World} {a0 a1 : Value} (hb : Below (w.heap.size + 1) (w.alloc (.cells #[a0, a1] 61)) w') : Below w.heap.size w w' := ((Below.refl _ _).alloc (Nat.le_refl _) _).trans (hb.mono (by omega))
set_option maxHeartbeats 1600000 in
theorem fits_any (h l : Int) (w : World) (l0 : 0 ≤ l) (l1 : l < 18446744073709551616) : Calls Tryz.prog 25 #[.agg #[.int .i64 h, .int .u64 l]] w fun e w' => e = .returned (.tuple #[.int .i64 (int64 (h * 18446744073709551616 + l)), .bool (fit64 (h * 18446744073709551616 + l))]) ∧ Below w.heap.size w w' := by
  obtain ⟨N, hN⟩ : ∃ N, N = h * 18446744073709551616 + l := ⟨_, rfl⟩
  rw [← hN]
  obtain ⟨n, hn⟩ : ∃ n, IntKind.i64.wrap l = n := ⟨_, rfl⟩
  have hn' := hn
  rw [IntKind.wrap_i64] at hn'
  have K := fun w => of_any n w (by omega) (by omega)
  have hs := w_split n
  have hlo : loW n = l := by omega
  unfold wv at K
  rw [hlo] at K
  by_cases hf : fit64 N = true
  · have hb := fit64_iff.1 hf
    have hnN : n = N := by omega
    have hh : hiW n = h := by omega
    unfold int64
    rw [hf, if_pos rfl, ← hnN]
    rw [hh] at K
    have t0 : (h == h) = true := by simp
    have t1 : (l == l) = true := by simp
    clear hn' hs hlo hf hb hh hN hnN
    go_enter Tryz.func25, Tryz.ntmps25
    go_wp2_with fail
    have HS := c1_all (w := w) (a0 := .int .i64 h) (a1 := .int .u64 l) (Below.refl _ _).drew
    go_region_held3 (fun w' => w'.cell? ⟨w.heap.size, 0, none⟩ = some (.int .i64 h) ∧ w'.cell? ⟨w.heap.size, 1, none⟩ = some (.int .u64 l) ∧ Below (w.heap.size + 1) (w.alloc (.cells #[.int .i64 h, .int .u64 l] 61)) w')
      (first | exact HS | (refine c1_keep (by assumption) (by first | assumption | exact HS)))
      (first | (go_at_call 40; refine (K _).mono ?_; rintro e w1 ⟨rfl, hb1⟩))
    rename_i hHeld
    go_wp2_with fail
    go_ret2
    exact ⟨rfl, c1_done hHeld.2.2⟩
  · have hf := Bool.eq_false_iff.2 hf
    have hb := fit64_not.1 hf
    have hh : hiW n ≠ h := by omega
    unfold int64
    rw [hf, if_neg (by decide)]
    generalize hiW n = X at K hh
    have t0 : (X == h) = false := by simpa using hh
    clear hn' hs hlo hf hb hh hN
    go_enter Tryz.func25, Tryz.ntmps25
    go_wp2_with fail
    have HS := c1_all (w := w) (a0 := .int .i64 h) (a1 := .int .u64 l) (Below.refl _ _).drew
    go_region_held3 (fun w' => w'.cell? ⟨w.heap.size, 0, none⟩ = some (.int .i64 h) ∧ w'.cell? ⟨w.heap.size, 1, none⟩ = some (.int .u64 l) ∧ Below (w.heap.size + 1) (w.alloc (.cells #[.int .i64 h, .int .u64 l] 61)) w')
      (first | exact HS | (refine c1_keep (by assumption) (by first | assumption | exact HS)))
      (first | (go_at_call 40; refine (K _).mono ?_; rintro e w1 ⟨rfl, hb1⟩))
    rename_i hHeld
    go_wp2_with fail
    go_ret2
    exact ⟨rfl, c1_done hHeld.2.2⟩
end Go.Proofs.YtbijpjoljljlpaaGreatDoor.Wide
/- Texts of values of any kind; what they are no text of. Conditions: the tables and error variables of the library as its text lays them; texts of at most 10^6 bytes. -/
set_option maxRecDepth 100000
namespace Go.Proofs.YtbijpjoljljlpaaGreatDoor
open Go.RowKit Go.Maps Go.Sort Go.Lib

/-- what is read of the library's variables -/
def Lv (w : World) : Prop := Vars w ∧ MaxOk w
theorem Lv.below {w w' : World} (h : Lv w) (hb : Below w.heap.size w w') : Lv w' := ⟨h.1.below hb, h.2.below hb⟩
def textL (k n : Int) (s : ByteArray) : List UInt8 :=
  if k = 0 then [78, 85, 76, 76] else if k = 1 then printL n else if k = 2 then prW (wi n) else if k = 3 then 39 :: (dbl s.data.toList ++ [39]) else if k = 4 then (if n = 0 then [70, 65, 76, 83, 69] else [84, 82, 85, 69]) else []
theorem m_null_text (v : Value) (w : World) : (method 274 51 v "talus/value.text").run Tryz.prog w = .ok (131, v) w := by kernel_rfl
theorem m_int_text (v : Value) (w : World) : (method 274 55 v "talus/value.text").run Tryz.prog w = .ok (143, v) w := by kernel_rfl
theorem m_float_text (v : Value) (w : World) : (method 274 52 v "talus/value.text").run Tryz.prog w = .ok (134, v) w := by kernel_rfl
theorem m_bool_text (v : Value) (w : World) : (method 274 56 v "talus/value.text").run Tryz.prog w = .ok (152, v) w := by kernel_rfl
theorem nullText_any (w : World) : Calls Tryz.prog 131 #[.agg #[]] w fun e w' => e = .returned (.string ⟨([78, 85, 76, 76] : List UInt8).toArray⟩) ∧ Below w.heap.size w w' := by
  go_enter Tryz.func131, Tryz.ntmps131
  go_wp2_with fail
  go_ret
  exact ⟨rfl, (Below.refl _ _).alloc (Nat.le_refl _) _⟩
theorem boolText_any (n : Int) (w : World) : Calls Tryz.prog 152 #[.int .i64 n] w fun e w' => e = .returned (.string ⟨(if n = 0 then ([70, 65, 76, 83, 69] : List UInt8) else [84, 82, 85, 69]).toArray⟩) ∧ Below w.heap.size w w' := by
  by_cases h : n = 0
  · rw [if_pos h]
    subst h
    go_enter Tryz.func152, Tryz.ntmps152
    go_wp2_with fail
    go_ret
    exact ⟨rfl, Below.refl _ _⟩
  · rw [if_neg h]
    have e0 : (n == 0) = false := by rw [beq_eq_false_iff_ne]; exact h
    clear h
    go_enter Tryz.func152, Tryz.ntmps152
    go_wp2_with fail
    go_ret
    exact ⟨rfl, Below.refl _ _⟩
theorem intText_any (n : Int) (h0 : -9223372036854775808 ≤ n) (h1 : n < 9223372036854775808) (w : World) : Calls Tryz.prog 143 #[.int .i64 n] w fun e w' => e = .returned (.string ⟨(printL n).toArray⟩) ∧ Below w.heap.size w w' := by
  obtain ⟨e1, e2, e3⟩ := Wide.w_split n
  have hf : Wide.fitW n = true := Wide.fit_iff.2 (by omega)
  have e4 := Wide.fit_hi hf
  have KO := fun w => Wide.of_any n w h0 h1
  have KP := fun w => Wide.print_any (Wide.hiW n) (Wide.loW n) w e4.1 e4.2 e2 e3
  rw [e1] at KP
  unfold Wide.wv at KO
  generalize Wide.hiW n = H at *
  generalize Wide.loW n = L at *
  clear e1 e2 e3 e4 hf h0 h1
  go_enter Tryz.func143, Tryz.ntmps143
  go_wp2_with fail
  refine (KO _).mono ?_
  rintro e w1 ⟨rfl, hb1⟩
  go_wp2_with fail
  refine (KP _).mono ?_
  rintro e w2 ⟨rfl, hb2⟩
  have HB := hb1.trans (hb2.mono hb1.size)
  go_wp2_with fail
  go_ret
  exact ⟨rfl, HB⟩
theorem floatText_any (n : Int) (h0 : -9223372036854775808 ≤ n) (h1 : n < 9223372036854775808) {w : World} (hv : Tab w) : Calls Tryz.prog 134 #[.int .i64 n] w fun e w' => e = .returned (.string ⟨(prW (wi n)).toArray⟩) ∧ Below w.heap.size w w' := by
  have KP := print_any hv (wi n) (wi_lt n)
  rw [iw_wi n h0 h1] at KP
  clear h0 h1
  go_enter Tryz.func134, Tryz.ntmps134
  go_wp2_with fail
  refine KP.mono ?_
  rintro e w1 ⟨rfl, hb1⟩
  go_wp2_with fail
  go_ret
  exact ⟨rfl, hb1⟩
/-- the way from a value to its text -/
theorem text_way (k n : Int) (s : ByteArray) (l : List UInt8) (w : World) (hv : Lv w)
    (h : (k = 0 ∧ l = [78, 85, 76, 76]) ∨ (k = 1 ∧ l = printL n) ∨ (k = 2 ∧ l = prW (wi n)) ∨ (k = 4 ∧ l = if n = 0 then [70, 65, 76, 83, 69] else [84, 82, 85, 69])) (h0 : -9223372036854775808 ≤ n) (h1 : n < 9223372036854775808) :
    Calls Tryz.prog 7 #[vv k n s] w fun e w' => e = .returned (.string ⟨l.toArray⟩) ∧ Below w.heap.size w w' := by
  have mt0 := m_null_text
  have mt1 := m_int_text
  have mt2 := m_float_text
  have mt4 := m_bool_text
  rcases h with ⟨rfl, rfl⟩ | ⟨rfl, rfl⟩ | ⟨rfl, rfl⟩ | ⟨rfl, rfl⟩
  · have KC := content_null n s
    have KT := nullText_any
    clear h0 h1 hv
    go_enter Tryz.func7, Tryz.ntmps7
    go_wp2_with fail
    refine (KC _).mono ?_
    rintro e w1 ⟨rfl, hb⟩
    have HB := Lib.hid (((Below.refl w.heap.size w).alloc (Nat.le_refl _) _).trans (hb.mono (by simp)))
    clear hb KC
    go_wp2_with fail
    refine (KT _).mono ?_
    rintro e w2 ⟨rfl, hb⟩
    have HB2 := Lib.hid (HB.out.trans (hb.mono HB.out.size))
    clear hb
    go_wp2_with fail
    go_ret
    exact ⟨rfl, HB2.out⟩
  · have KC := content_int n s
    have KT := intText_any n h0 h1
    clear h0 h1 hv
    go_enter Tryz.func7, Tryz.ntmps7
    go_wp2_with fail
    refine (KC _).mono ?_
    rintro e w1 ⟨rfl, hb⟩
    have HB := Lib.hid (((Below.refl w.heap.size w).alloc (Nat.le_refl _) _).trans (hb.mono (by simp)))
    clear hb KC
    go_wp2_with fail
    refine (KT _).mono ?_
    rintro e w2 ⟨rfl, hb⟩
    have HB2 := Lib.hid (HB.out.trans (hb.mono HB.out.size))
    clear hb
    go_wp2_with fail
    go_ret
    exact ⟨rfl, HB2.out⟩
  · have KC := content_float n s
    have KT := fun (w : World) hv => floatText_any n h0 h1 (w := w) hv
    clear h0 h1
    go_enter Tryz.func7, Tryz.ntmps7
    go_wp2_with fail
    refine (KC _).mono ?_
    rintro e w1 ⟨rfl, hb⟩
    have HB := Lib.hid (((Below.refl w.heap.size w).alloc (Nat.le_refl _) _).trans (hb.mono (by simp)))
    have hT := (hv.1.below HB.out).tab
    clear hb KC
    go_wp2_with fail
    refine (KT _ hT).mono ?_
    rintro e w2 ⟨rfl, hb⟩
    have HB2 := Lib.hid (HB.out.trans (hb.mono HB.out.size))
    clear hb
    go_wp2_with fail
    go_ret
    exact ⟨rfl, HB2.out⟩
  · have KC := content_bool n s
    have KT := boolText_any n
    clear h0 h1 hv
    generalize (if n = 0 then ([70, 65, 76, 83, 69] : List UInt8) else [84, 82, 85, 69]) = X at *
    go_enter Tryz.func7, Tryz.ntmps7
    go_wp2_with fail
    refine (KC _).mono ?_
    rintro e w1 ⟨rfl, hb⟩
    have HB := Lib.hid (((Below.refl w.heap.size w).alloc (Nat.le_refl _) _).trans (hb.mono (by simp)))
    clear hb KC
    go_wp2_with fail
    refine (KT _).mono ?_
    rintro e w2 ⟨rfl, hb⟩
    have HB2 := Lib.hid (HB.out.trans (hb.mono HB.out.size))
    clear hb
    go_wp2_with fail
    go_ret
    exact ⟨rfl, HB2.out⟩
theorem vtext_any (k n : Int) (s : ByteArray) (hk : 0 ≤ k ∧ k ≤ 4) (hs : s.size ≤ 1000000) (h0 : -9223372036854775808 ≤ n) (h1 : n < 9223372036854775808) (w : World) (hv : Lv w) :
    Calls Tryz.prog 7 #[vv k n s] w fun e w' => e = .returned (.string ⟨(textL k n s).toArray⟩) ∧ Below w.heap.size w w' := by
  unfold textL
  by_cases c0 : k = 0
  · rw [if_pos c0]; exact text_way k n s _ w hv (.inl ⟨c0, rfl⟩) h0 h1
  by_cases c1 : k = 1
  · rw [if_neg c0, if_pos c1]; exact text_way k n s _ w hv (.inr (.inl ⟨c1, rfl⟩)) h0 h1
  by_cases c2 : k = 2
  · rw [if_neg c0, if_neg c1, if_pos c2]; exact text_way k n s _ w hv (.inr (.inr (.inl ⟨c2, rfl⟩))) h0 h1
  by_cases c3 : k = 3
  · rw [if_neg c0, if_neg c1, if_neg c2, if_pos c3, ← quoteB_eq]
    subst c3
    exact text_str n s hs w hv.2
  · have c4 : k = 4 := by omega
    rw [if_neg c0, if_neg c1, if_neg c2, if_neg c3, if_pos c4]
    exact text_way k n s _ w hv (.inr (.inr (.inr ⟨c4, rfl⟩))) h0 h1
end Go.Proofs.YtbijpjoljljlpaaGreatDoor
