/- The calls of a sketch where several things stand side by side. Conditions: sketches that were made. -/
import Derived.Test.YtadlfmdliinnnaaKmvNo
import Derived.Test.YtadlfmdliinnnaaWords
set_option maxRecDepth 100000
namespace Go.Proofs.Ytadlfmdliinnnaa
open Go.RowKit Go.Maps Go.Sort

section
variable {w0 w : World} {E : List (Nat × Thing)} {i j : Nat} {p q : Nat} {V U : SkV}

theorem side_new (h : Side w0 E w) (i : Nat) {sa : Option Addr} {n sc : Nat} {S : List (Nat × Nat)} (hs : SetAt w sa n sc S) (t : Nat) (k m : Int) (hg : goodB t S k m = true) :
    Calls Try.prog 9 #[setV t sa n sc k m] w fun e w' => ∃ p, e = .returned (.pointer (some ⟨p, 0, none⟩)) ∧ Hid (Side w0 ((i, Sk p (SkV.empty t S)) :: E) w') :=
  h.make i (fun p => Sk p (SkV.empty t S)) (fun p => Sk.framed p _) (R := fun p e => e = .returned (.pointer (some ⟨p, 0, none⟩))) fun T _ => new_any hs t k m hg T i
theorem side_ins (h : Side w0 ((i, Sk p V) :: E) w) (hi : ∀ e ∈ E, e.1 ≠ i) {x : Nat} (hx : x < 18446744073709551616) :
    Calls Try.prog 14 #[.pointer (some ⟨p, 0, none⟩), .int .u64 (x : Int)] w fun e w' => e = .returned (.tuple #[]) ∧ Hid (Side w0 ((i, Sk p (V.ins x)) :: E) w') :=
  (h.step hi (Sk.framed p (V.ins x)) (Pr := fun e => e = .returned (.tuple #[])) fun _ _ hA => (ins_any (hA _ (List.mem_cons_self ..)) hx).mono fun _ _ ⟨a, b⟩ => ⟨a, b.out⟩).mono fun _ _ ⟨a, b⟩ => ⟨a, b⟩
theorem side_est (h : Side w0 E w) (hx : (i, Sk p V) ∈ E) :
    Calls Try.prog 26 #[.pointer (some ⟨p, 0, none⟩)] w fun e w' => e = .returned (.int .i64 (midOf V.answers)) ∧ Below w.heap.size w w' :=
  h.read hx (Pr := fun e => e = .returned (.int .i64 (midOf V.answers))) fun _ hA => estimate_any hA
theorem side_thing (h : Side w0 E w) {A : Thing} (hx : (i, A) ∈ E) : ∃ T, A T i w := by
  obtain ⟨T, h⟩ := h
  exact ⟨T, (h.at_ _ hx).2⟩
theorem side_copies (h : Side w0 E w) (hx : (i, Sk p V) ∈ E) :
    Calls Try.prog 24 #[.pointer (some ⟨p, 0, none⟩)] w (CopAt w V.L) := by
  obtain ⟨T, hA⟩ := side_thing h hx
  exact copies_any hA
theorem side_answers (h : Side w0 E w) (hx : (i, Sk p V) ∈ E) :
    Calls Try.prog 25 #[.pointer (some ⟨p, 0, none⟩)] w (AnsAt w V.answers) := by
  obtain ⟨T, hA⟩ := side_thing h hx
  exact answers_any hA
theorem side_bytes (h : Side w0 E w) (hx : (i, Sk p V) ∈ E) :
    Calls Try.prog 22 #[.pointer (some ⟨p, 0, none⟩)] w (BytesAt w (bytesL V.L)) := by
  obtain ⟨T, hA⟩ := side_thing h hx
  exact bytes_any hA
theorem side_copy (h : Side w0 E w) (hx : (i, Sk p V) ∈ E) (j : Nat) :
    Calls Try.prog 19 #[.pointer (some ⟨p, 0, none⟩)] w fun e w' => ∃ q, e = .returned (.pointer (some ⟨q, 0, none⟩)) ∧ Hid (Side w0 ((j, Sk q V) :: E) w') :=
  h.make j (fun q => Sk q V) (fun q => Sk.framed q _) (R := fun q e => e = .returned (.pointer (some ⟨q, 0, none⟩))) fun _ hE => copy_any (hE _ hx) j
theorem side_merge (h : Side w0 ((i, Sk p V) :: E) w) (hi : ∀ e ∈ E, e.1 ≠ i) (hx : (j, Sk q U) ∈ E) (ht : U.t = V.t) (hS : U.seeds = V.seeds) :
    Calls Try.prog 16 #[.pointer (some ⟨p, 0, none⟩), .pointer (some ⟨q, 0, none⟩)] w fun e w' => e = .returned (.int .i64 0) ∧ Hid (Side w0 ((i, Sk p (V.merge U)) :: E) w') :=
  (h.step hi (Sk.framed p (V.merge U)) (Pr := fun e => e = .returned (.int .i64 0)) fun _ _ hA => merge_two (hA _ (List.mem_cons_self ..)) (hA _ (List.mem_cons_of_mem _ hx)) (fun e => hi _ hx e.symm) ht hS).mono fun _ _ ⟨a, b⟩ => ⟨a, b⟩
theorem side_merge_self (h : Side w0 E w) (hx : (i, Sk p V) ∈ E) :
    Calls Try.prog 16 #[.pointer (some ⟨p, 0, none⟩), .pointer (some ⟨p, 0, none⟩)] w fun e w' => e = .returned (.int .i64 0) ∧ Below w.heap.size w w' := by
  obtain ⟨T, hA⟩ := side_thing h hx
  exact merge_self hA
theorem side_merge_arg (h : Side w0 E w) (hx : (i, Sk p V) ∈ E) {y : Option Addr} (g : NoK w y) :
    Calls Try.prog 16 #[.pointer (some ⟨p, 0, none⟩), .pointer y] w fun e w' => e = .returned (.int .i64 2) ∧ Below w.heap.size w w' := by
  obtain ⟨T, hA⟩ := side_thing h hx
  exact merge_arg hA g
end

/-- the settings of the document's example -/
theorem set_one {w : World} {b : Nat} (h : w.heap[b]? = some (.cells #[.int .u64 1, .int .u64 0] 65 (0, 0))) : SetAt w (some ⟨b, 0, none⟩) 1 1 [(1, 0)] where
  len := rfl
  cap := ⟨Nat.le_refl _, by unfold maxLen; omega⟩
  lt := fun s hs => by simp at hs; subst hs; exact ⟨by decide, by decide⟩
  at_ := fun _ => ⟨_, rfl, fun j u hj => by
    rw [Addr.add_at, Nat.zero_add, cell_of_row _ _ _ _ _ _ h]
    simpa [flat] using hj⟩
theorem good_one : goodB ((2 : Nat) : Int) [(1, 0)] 1 1 = true := by decide

theorem midOf_one (n : Nat) : midOf [n] = n := by simp [midOf, sortI]
def VO : SkV := SkV.empty 2 [(1, 0)]
def V5 (k : Nat) : SkV := if k = 0 then VO else if k = 1 then VO.ins 5 else if k = 2 then (VO.ins 5).ins 5 else ((VO.ins 5).ins 5).ins 9
theorem V7_L : (VO.ins 7).L = [[7]] := by decide
theorem V5_L : (V5 3).L = [[5, 9]] := by decide
theorem V7_mid : midOf (VO.ins 7).answers = 1 := by
  unfold SkV.answers
  rw [V7_L]
  exact midOf_one 1
theorem V5_mid : midOf (V5 3).answers = 256204778801521550 := by
  unfold SkV.answers
  rw [V5_L]
  exact midOf_one 256204778801521550

set_option maxHeartbeats 6400000 in
theorem lives_any (w : World) : Calls Try.prog 13 #[] w fun e w' => e = .returned (.bool true) ∧ Below w.heap.size w w' := by
  have S0 := (Side.nil w).alloc 9 (.cells #[.int .u64 1, .int .u64 0] 65)
  have K1 := side_new S0 0 (set_one (S0.heap (i := 9) (List.mem_cons_self ..))) 2 1 1 good_one
  have KN := Lib.hid (fun W (h : Side w [] W) => side_new (h.alloc 9 (.cells #[.int .u64 1, .int .u64 0] 65)) 1 (set_one ((h.alloc 9 (.cells #[.int .u64 1, .int .u64 0] 65)).heap (i := 9) (List.mem_cons_self ..))) 2 1 1 good_one)
  unfold setV at K1 KN
  clear S0
  go_enter Try.func13, Try.ntmps13
  go_wp2_with fail
  refine K1.mono ?_
  rintro e w1 ⟨p, rfl, S1⟩
  clear K1
  have KI := side_ins (S1.out.sub (E' := [(0, Sk p VO)]) (fun x hx => by simp at hx; subst hx; exact List.mem_cons_self ..)) (fun e he => by simp at he) (x := 7) (by decide)
  clear S1
  go_wp2_with fail
  refine KI.mono ?_
  rintro e w2 ⟨rfl, S2⟩
  clear KI
  have KE := side_est S2.out (List.mem_cons_self ..)
  rw [V7_mid] at KE
  go_wp2_with fail
  refine KE.mono ?_
  rintro e w3 ⟨rfl, hb3⟩
  have S3 := Lib.hid ((S2.out.below hb3).sub (E' := []) (fun x hx => by simp at hx))
  clear KE S2 hb3
  have KM := KN.out _ S3.out
  clear S3 KN
  go_wp2_with fail
  refine KM.mono ?_
  rintro e w4 ⟨q, rfl, S4⟩
  have S5 : Hid (Side w [(1, Sk q (V5 0))] w4) := Lib.hid (S4.out.sub (fun x hx => by simp at hx; subst hx; exact List.mem_cons_self ..))
  clear KM S4
  have i0 : ∀ W, (Instr.index 70 (.agg #[.int .u64 5, .int .u64 5, .int .u64 9]) (.int .i64 0)).run Try.prog W = .ok (.int .u64 5) W := fun _ => by kernel_rfl
  have i1 : ∀ W, (Instr.index 70 (.agg #[.int .u64 5, .int .u64 5, .int .u64 9]) (.int .i64 1)).run Try.prog W = .ok (.int .u64 5) W := fun _ => by kernel_rfl
  have i2 : ∀ W, (Instr.index 70 (.agg #[.int .u64 5, .int .u64 5, .int .u64 9]) (.int .i64 2)).run Try.prog W = .ok (.int .u64 9) W := fun _ => by kernel_rfl
  go_wp2_with fail
  go_loopw [5, 22] (fun _ k wr => ∃ m : Nat, k = .int .i64 m ∧ m ≤ 3 ∧ Hid (Side w [(1, Sk q (V5 m))] wr)) (fun _ k _ => 3 - (intOf k).toNat)
  case atStart => exact ⟨0, rfl, by omega, S5.out⟩
  case round =>
    obtain ⟨m, rfl, hm, HR⟩ := hrel
    rcases (by omega : m = 0 ∨ m = 1 ∨ m = 2 ∨ m = 3) with rfl | rfl | rfl | rfl
    · have KI := side_ins HR.out (fun e he => by simp at he) (x := 5) (by decide)
      go_wp2_with fail
      refine KI.mono ?_
      rintro e w5 ⟨rfl, S6⟩
      clear KI HR
      go_wp2_with fail
      go_roundw
      case rel => exact ⟨1, rfl, by omega, S6⟩
      case measure => simp [intOf]
    · have KI := side_ins HR.out (fun e he => by simp at he) (x := 5) (by decide)
      go_wp2_with fail
      refine KI.mono ?_
      rintro e w5 ⟨rfl, S6⟩
      clear KI HR
      go_wp2_with fail
      go_roundw
      case rel => exact ⟨2, rfl, by omega, S6⟩
      case measure => simp [intOf]
    · have KI := side_ins HR.out (fun e he => by simp at he) (x := 9) (by decide)
      go_wp2_with fail
      refine KI.mono ?_
      rintro e w5 ⟨rfl, S6⟩
      clear KI HR
      go_wp2_with fail
      go_roundw
      case rel => exact ⟨3, rfl, by omega, S6⟩
      case measure => simp [intOf]
    · have KC := side_copies HR.out (List.mem_cons_self ..)
      rw [V5_L] at KC
      go_wp2_with fail
      refine KC.mono ?_
      rintro e w5 ⟨g, rows, rfl, hr, hb⟩
      obtain ⟨v, hv, c3, ho⟩ : ∃ v, rows[0]? = some v ∧ w5.cell? ⟨g, 0, none⟩ = some v ∧ w5.ownsRow wr.heap.size 32 1 v 2 (nats [5, 9]) := by
        have h0 : 0 < rows.length := by rw [hr.len]; decide
        refine ⟨rows[0], List.getElem?_eq_getElem h0, ?_, hr.row 0 _ [5, 9] (List.getElem?_eq_getElem h0) rfl⟩
        rw [cell_of_row _ _ _ _ _ _ hr.tab]
        simp [h0]
      obtain ⟨a, c, rfl, hc, hcm⟩ := ownsRow_form ho
      have S7 := Lib.hid (HR.out.below hb)
      have KW := Lib.hid (Words_any (w := w5.alloc (.cells #[.int .u64 5, .int .u64 9] 32)) (l1 := [5, 9]) (l2 := [5, 9]) (Holds.below (Holds.of_row (xs := nats [5, 9]) ho) ((Below.refl _ _).alloc (Nat.le_refl _) _)) (Holds.of_heap (alloc1 _ _) rfl 2 2 rfl (Nat.le_refl _)) rfl rfl (by decide))
      clear hr hv ho hb KC HR
      go_wp2_with fail
      refine KW.out.mono ?_
      rintro e w6 ⟨rfl, hb6⟩
      simp only [decide_true]
      have S8 := Lib.hid ((S7.out.below ((Below.refl _ _).alloc (Nat.le_refl _) (.cells #[.int .u64 5, .int .u64 9] 32))).below hb6)
      clear hb6 KW S7
      have KE := side_est S8.out (List.mem_cons_self ..)
      rw [V5_mid] at KE
      go_wp2_with fail
      refine KE.mono ?_
      rintro e w7 ⟨rfl, hb7⟩
      have HB := Lib.hid (S8.out.below hb7).base
      clear hb7 KE S8
      go_wp2_with fail
      go_ret
      exact ⟨rfl, HB.out⟩
end Go.Proofs.Ytadlfmdliinnnaa
