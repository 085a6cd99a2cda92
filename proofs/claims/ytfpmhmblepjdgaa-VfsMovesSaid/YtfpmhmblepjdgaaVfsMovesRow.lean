/- VfsMoves holds: a file that is renamed has its bytes, and the name that it had is nobody's. Conditions: none. -/
import Derived.Test.YtfpmhmblepjdgaaVfsMoves
set_option maxRecDepth 100000
namespace Go.Proofs.Ytfpmhmblepjdgaa
open Go.ChangeShapes Go.WideShapes Go.ChangeAt Go.RowKit Go.Maps Go.Sort
open Go.ChangeMaps (open_string shut_string)

theorem bytes_ne {a b : ByteArray} (h : ¬ a = b) : (a == b) = false := by
  cases a with
  | mk x =>
    cases b with
    | mk y =>
      show (x == y) = false
      rw [beq_eq_false_iff_ne]
      intro e
      exact h (by rw [e])

theorem onat_readany {s : ByteArray} {w0 w : World} {p : Nat} {D : DV} {b : List UInt8} {sy : Nat} {ops left : Int} {keep : List Int} (hs : s.size ≤ maxLen) {nm : List UInt8} (h : OneAt nm w0 w p D b sy true ops left keep) :
    Calls Try.prog 21 #[.pointer (some ⟨p, 0, none⟩), .string s] w fun r w' => ∃ v e, r = .returned (.tuple #[v, .int .i64 e]) ∧ Hid (OneAt nm w0 w' p D b sy true ops left keep) ∧ Hid (Below w.heap.size w w') ∧ Hid (nm ≠ s.data.toList → goodL s.data.toList = true → e = 4) := by
  obtain ⟨T, h1, hB, hT, L⟩ := h
  obtain ⟨f, hf, _⟩ := L.file
  refine (Read_any h1 s hs).mono ?_
  rintro e w' ⟨v, l, rfl, hb, hrow, hc⟩
  refine ⟨v, _, rfl, ⟨T, h1.below hb, hB.trans (hb.mono hB.size), hT, L⟩, hb, fun hne hg => ?_⟩
  unfold findE
  rw [L.on, ready_mk1 hg, hf]
  have : fileOf [(nm, f)] s.data.toList = none := by
    unfold fileOf
    rw [List.find?_cons_of_neg (by simpa using hne)]; rfl
  rw [this]; rfl

set_option maxHeartbeats 800000 in
theorem moves_main (w : World) (a b : ByteArray) (ha : a.size ≤ maxLen) (hb : b.size ≤ maxLen) (da : Option Addr) (dn dc : Nat) (l : List UInt8) (hga : goodL a.data.toList = true) (hgb : goodL b.data.toList = true) (hdn : dn ≤ 1048576)
    (hl : Holds8 w (.slice da dn dc) l) (hlb : ∀ (ad : Addr) (n c : Nat), Value.slice da dn dc = .slice (some ad) n c → n ≠ 0 → ad.block < w.heap.size) (hll : l.length = dn) :
    Calls Try.prog 6 #[.string a, .string b, .slice da dn dc] w fun e w' => e = .returned (.bool true) ∧ Below w.heap.size w w' := by
  have HGA := Lib.hid (fun w => Good_any a w ha)
  have HGB := Lib.hid (fun w => Good_any b w hb)
  have HA := Lib.hid ha
  have HB := Lib.hid hb
  have GA := Lib.hid hga
  have GB := Lib.hid hgb
  have HL := Lib.hid hl
  have HLB := Lib.hid hlb
  have HLL := Lib.hid hll
  have HDN := Lib.hid hdn
  have hdd : decide ((1048576 : Int) < (dn : Int)) = false := decide_eq_false (by omega)
  clear ha hb hga hgb hl hlb hll hdn
  go_enter Try.func6, Try.ntmps6
  go_wp2_with fail
  refine (at_new w).mono ?_
  rintro e w1 ⟨p, rfl, X1⟩
  go_wp2_with fail
  refine (HGA.out _).mono ?_
  rintro e w1' ⟨rfl, rfl⟩
  rw [GA.out]
  go_wp2_with fail
  refine (HGB.out _).mono ?_
  rintro e w1' ⟨rfl, rfl⟩
  rw [GB.out]
  go_wp2_with fail
  refine (onat_create HA.out (ready_mk1 GA.out) X1.out).mono ?_
  rintro e w2 ⟨rfl, X2⟩
  obtain ⟨D2, X2⟩ := X2.out
  have X2 := Lib.hid X2
  have B2 : Hid (Below w.heap.size w w2) := by obtain ⟨T, _, hB, _⟩ := X2.out; exact hB
  go_wp2_with fail
  refine (onat_write HA.out (ready_mk1 GA.out) X2.out (HL.out.below B2.out) HLB.out (by have := HLL.out; have := HDN.out; simp; omega) (by omega) (by omega)).mono ?_
  rintro e w3 ⟨rfl, X3⟩
  obtain ⟨D3, X3⟩ := X3.out
  have X3 := Lib.hid X3
  go_wp2_with fail
  refine (onat_rename HA.out HB.out (ready_mk GA.out GB.out) X3.out (by omega) (by omega)).mono ?_
  rintro e w4 ⟨rfl, X4⟩
  obtain ⟨D4, X4⟩ := X4.out
  have X4 := Lib.hid X4
  go_wp2_with fail
  refine (onat_read HB.out (ready_mk1 GB.out) X4.out).mono ?_
  rintro e w5 ⟨v, rfl, HR, X5⟩
  clear X1 X2 X3 X4 B2
  obtain ⟨va, vc, hva, _, _⟩ := ownsRow_form HR.out
  subst hva
  have HV : Hid (Holds8 w5 (.slice va ([] ++ l).length vc) ([] ++ l)) := holds8_of_row HR.out
  clear HR
  go_wp2_with fail
  have hB5 : Hid (Below w.heap.size w w5) := by obtain ⟨T, _, hB, _⟩ := X5.out; exact hB
  refine (onat_readany HA.out X5.out).mono ?_
  rintro e w6 ⟨v2, r2, rfl, X6, hb6, hr2⟩
  cases hab : (a.toList == b.toList) with
  | true =>
    go_wp2_with fail
    refine (Same_any (HV.out.below hb6.out) (HL.out.below (hB5.out.trans (hb6.out.mono hB5.out.size)))).mono ?_
    rintro e w6' ⟨rfl, rfl⟩
    simp only [List.nil_append, decide_true]
    go_wp2_with fail
    refine (onat_list X6.out).mono ?_
    rintro e w7 ⟨la, lc, rfl, hb7⟩
    go_wp2_with fail
    refine (lives_any _).mono ?_
    rintro e w8 ⟨rfl, hb8⟩
    have HB8 := Lib.hid hb8
    clear hb8
    go_wp2_with fail
    go_ret
    have t6 := hB5.out.trans (hb6.out.mono hB5.out.size)
    have t7 := t6.trans (hb7.out.mono t6.size)
    exact ⟨rfl, t7.trans (HB8.out.mono t7.size)⟩
  | false =>
    have hne2 : b.data.toList ≠ a.data.toList := fun e => by
      have e2 : a = b := ByteArray.ext (Array.toList_inj.1 e.symm)
      subst e2
      simp at hab
    obtain rfl := hr2.out hne2 GA.out
    clear hne2 hr2
    go_wp2_with fail
    refine (Same_any (HV.out.below hb6.out) (HL.out.below (hB5.out.trans (hb6.out.mono hB5.out.size)))).mono ?_
    rintro e w6' ⟨rfl, rfl⟩
    simp only [List.nil_append, decide_true]
    go_wp2_with fail
    refine (onat_list X6.out).mono ?_
    rintro e w7 ⟨la, lc, rfl, hb7⟩
    go_wp2_with fail
    refine (lives_any _).mono ?_
    rintro e w8 ⟨rfl, hb8⟩
    have HB8 := Lib.hid hb8
    clear hb8
    go_wp2_with fail
    go_ret
    have t6 := hB5.out.trans (hb6.out.mono hB5.out.size)
    have t7 := t6.trans (hb7.out.mono t6.size)
    exact ⟨rfl, t7.trans (HB8.out.mono t7.size)⟩

theorem moves_walk (a b : ByteArray) (ha : a.size ≤ maxLen) (hb : b.size ≤ maxLen) (a0 : Option Addr) (len0 cap0 : Nat) (z0 : List Int) (w : World) (w0 : IsRow .u8 w a0 len0 cap0 z0) :
    Calls Try.prog 6 #[.string a, .string b, .slice a0 len0 cap0] w fun e w' => e = .returned (.bool true) ∧ Below w.heap.size w w' := by
  obtain ⟨l, hll, hl, hlb⟩ := isRow_holds w0
  cases hga : goodL a.data.toList with
  | false => exact moves_early w a b ha hb a0 len0 cap0 (.inl hga)
  | true =>
    cases hgb : goodL b.data.toList with
    | false => exact moves_early w a b ha hb a0 len0 cap0 (.inr (.inl hgb))
    | true =>
      by_cases h : 1048576 < len0
      · exact moves_early w a b ha hb a0 len0 cap0 (.inr (.inr h))
      · exact moves_main w a b ha hb a0 len0 cap0 l hga hgb (by omega) hl hlb hll

theorem moves_lifted (os : Os) (started : os.Started) (H : Type) (enc : TypeId × Value → H) :
    ReturnsInHanded {} Try.checked os 6 .any (Rows.vfsMovesSpec.pre6 enc Try.prog Try.f6 Rows.vfsMovesRow.domain false) (Rows.vfsMovesSpec.post enc Try.prog Try.f6 false true false false) := by
  refine returnsInHanded_of_change (C := Try.checked) own started (by kernel_rfl) Try.func6
    (ChangeSpec.witness6 (enc := enc) (C := Try.checked) false ⟨#[], #[.string ByteArray.empty, .string ByteArray.empty, .slice none 0 0], []⟩ 8 (by kernel_rfl) (by kernel_rfl) (by kernel_rfl) (by kernel_rfl)) ?_
  intro W base args ds gs before hval0 hW hcnd _
  have hval : ∀ (j : Nat) t v, Try.f6.params[j]? = some t → args[j]? = some v → Value.okWide Try.prog W .any base t v := hval0
  have hW' := hW
  obtain ⟨p, q, hA0, hV, rfl, hfz, hnd⟩ := hW
  have hA : DataW.TrodAll enc Try.prog W 0 (fun _ => true) true Try.f6.params.toList args.toList ds p := hA0
  rw [Try.params6] at hA hval
  obtain ⟨v0, vs0, d0, ds0, p0, q0, hargs, rfl, rfl, h0, r0⟩ := trodAll_cons hA
  obtain ⟨v1, vs1, d1, ds1, p1, q1, rfl, rfl, rfl, h1, r1⟩ := trodAll_cons r0
  obtain ⟨v2, vs2, d2, ds2, p2, q2, rfl, rfl, rfl, h2, r2⟩ := trodAll_cons r1
  obtain ⟨rfl, rfl, rfl⟩ := trodAll_nil r2
  obtain rfl : args = #[v0, v1, v2] := by cases args; simp_all
  obtain ⟨rfl, rfl⟩ := trodVars_none hV
  obtain ⟨a0, rfl, rfl, rfl, w0⟩ := open_string Try.underlying9 (hval 0 9 v0 rfl rfl) h0
  obtain ⟨a1, rfl, rfl, rfl, w1⟩ := open_string Try.underlying9 (hval 1 9 v1 rfl rfl) h1
  obtain ⟨a2, len2, cap2, rfl⟩ := okWide_slice Try.underlying30 (hval 2 30 v2 rfl rfl)
  have k2 := h2
  have lt2 : ∀ x ∈ p2, x.block < W.heap.size := by obtain ⟨m, hm⟩ := k2; exact DataW.trod_lt m _ _ _ hm
  obtain ⟨z2, w2⟩ : ∃ zs, IsRow .u8 W a2 len2 cap2 zs := by
    obtain ⟨fuel, hf⟩ := h2
    rcases open_ints Try.underlying30 Try.underlying5 (by kernel_rfl) hf with ⟨hcs, _⟩ | ⟨x, l, c, zs, hcs, _, hl, hm, hz, _, hcell, hwz⟩
    · simp [Value.cells] at hcs
      obtain ⟨rfl, rfl, rfl⟩ := hcs
      exact ⟨[], .inl ⟨rfl, rfl, rfl, rfl⟩⟩
    · simp [Value.cells] at hcs
      obtain ⟨rfl, rfl, rfl⟩ := hcs
      exact ⟨zs, .inr ⟨_, rfl, hl, hm, by simpa using hz, hcell, hwz⟩⟩
  clear hA0 hval0
  refine (moves_walk a0 a1 w0 w1 a2 len2 cap2 z2 W w2).mono fun e W' ⟨he, bel⟩ => ?_
  subst he
  exact ⟨_, rfl, _, _, _, [], _, [], hW', trodAll_mk1 (shut_bool Try.underlying4 _), (trodAll_cons_mk (shut_string Try.underlying9 w0) (trodAll_cons_mk (shut_string Try.underlying9 w1) (trodAll_cons_mk (Below.trod laidOut (by kernel_rfl) (of_decide_eq_true (by kernel_rfl)) k2 bel lt2) trodAll_mk0))), rfl, bel.frame _, fun h => by cases h⟩

/-- the statement -/
theorem moves_holds : Rows.VfsMovesSaid :=
  OpenClaim.holds_of_wide 6 Try.f6 rfl rfl rfl rfl rfl rfl rfl ⟨rfl, rfl, rfl, rfl, rfl⟩ rfl rfl rfl rfl rfl (by kernel_rfl) Try.func6 (by kernel_rfl)
    (of_decide_eq_true (by kernel_rfl)) (by unfold Func.isWrapper; first | (rw [if_pos (by decide +kernel)]; kernel_rfl) | (rw [if_neg (by decide +kernel)]; exact ⟨rfl, rfl⟩))
    (fun os started H enc _ => moves_lifted os started H enc)
#print axioms moves_holds
end Go.Proofs.Ytfpmhmblepjdgaa
