/- The calls of a digest where several things stand side by side; the document's examples hold in any world. Conditions: few nodes. -/
import Derived.Test.YtaaphkjimlfgoaaDigRank
import Derived.Test.YtaaphkjimlfgoaaDigTarget
import Derived.Test.YtaaphkjimlfgoaaDigNo
import Derived.Laws.StructEq
set_option maxRecDepth 100000
namespace Go.Proofs.Ytaaphkjimlfgoaa
open Go.RowKit Go.Maps Go.Sort Go.Shelf

section
variable {w0 w : World} {E : List (Nat × Thing)} {i : Nat} {p : Nat} {V : DV}
theorem side_thing (h : Side w0 E w) {A : Thing} (hx : (i, A) ∈ E) : ∃ T, A T i w := by
  obtain ⟨T, h⟩ := h
  exact ⟨T, (h.at_ _ hx).2⟩
theorem side_dnew (h : Side w0 E w) (i : Nat) {k : Nat} (h1 : 1 ≤ k) (h2 : k ≤ 64) :
    Calls Try.prog 9 #[.int .i64 k] w fun e w' => ∃ p, e = .returned (.pointer (some ⟨p, 0, none⟩)) ∧ Hid (Side w0 ((i, Dk p (DV.none_k k)) :: E) w') :=
  h.make i (fun p => Dk p (DV.none_k k)) (fun p => Dk.framed p _) (R := fun p e => e = .returned (.pointer (some ⟨p, 0, none⟩))) fun T _ => new_yes h1 h2 T i
theorem side_dins0 (h : Side w0 ((i, Dk p V) :: E) w) (hi : ∀ e ∈ E, e.1 ≠ i) {x : Nat} (hx : x < 18446744073709551616) (hn : V.n < 1125899906842624) (hl : V.L.length < 3 * V.k + 64) :
    Calls Try.prog 12 #[.pointer (some ⟨p, 0, none⟩), .int .u64 (x : Int)] w fun e w' => e = .returned (.tuple #[]) ∧ Hid (Side w0 ((i, Dk p (V.ins0 x)) :: E) w') :=
  (h.step hi (Dk.framed p (V.ins0 x)) (Pr := fun e => e = .returned (.tuple #[])) fun _ _ hA => (ins_few (hA _ (List.mem_cons_self ..)) x hx hn hl).mono fun _ _ ⟨a, b⟩ => ⟨a, b.out⟩).mono fun _ _ ⟨a, b⟩ => ⟨a, b⟩
theorem side_dnodes (h : Side w0 E w) (hx : (i, Dk p V) ∈ E) (hl : V.L.length ≤ 100000) : Calls Try.prog 20 #[.pointer (some ⟨p, 0, none⟩)] w (NodesAt w V.L) := by
  obtain ⟨T, b, hA, hG⟩ := side_thing h hx
  obtain ⟨c0, _, c2, _⟩ := hA.cells
  exact nodes_at c0 hG.k1 c2 hA.map hl
theorem side_drank (h : Side w0 E w) (hx : (i, Dk p V) ∈ E) (hl : V.L.length < 20) (hN : ∀ q ∈ V.L, NodeC q.1) {r : Int} (h1 : 1 ≤ r) (h2 : r ≤ V.n) :
    Calls Try.prog 21 #[.pointer (some ⟨p, 0, none⟩), .int .i64 r] w fun e w' => e = .returned (rankV (rankG (byG V.L) r)) ∧ Below w.heap.size w w' := by
  obtain ⟨T, b, hA, hG⟩ := side_thing h hx
  refine rank_few hA hG.k1 hl hN (fun q hq => ?_) h1 h2 (by have := hG.n50; omega)
  have hq' : q ∈ V.L := by
    have hp := (byG_perm V.L).2.2
    have e1 : V.L.toArray.extract 0 V.L.length = V.L.toArray := by
      have : V.L.toArray.size = V.L.length := by simp
      rw [← this]; simp
    have e2 : (byG V.L).toArray.extract 0 V.L.length = (byG V.L).toArray := by
      have : (byG V.L).toArray.size = V.L.length := by simp [byG_len]
      rw [← this]; simp
    rw [e1, e2] at hp
    exact hp.mem_iff.1 hq
  exact ⟨hG.pos q hq', by have := hG.le q hq'; have := hG.n50; omega⟩
end
theorem eql_node (w : World) (a b c : Int) : (binOp .eql 50 (.agg #[.int .i64 a, .int .u64 b, .int .i64 c]) (.agg #[.int .i64 a, .int .u64 b, .int .i64 c])).run Try.prog w = .ok (.bool true) w := by
  have u3 := Try.underlying3
  have u9 := Try.underlying29
  have hS : Try.prog.underlying 50 = some (.struct (Try.prog.fieldsOf 50)) := by kernel_rfl
  have hp : Try.prog.stoodInHeld 50 = false := by kernel_rfl
  rw [run_eql_struct, show (10000 : Nat) = 9999 + 1 from rfl, run_equalIn_agg w 9999 50 _ _ hS hp]
  simp only [Program.fieldsOf, Try.underlying50]
  go_simp
theorem guard_node (w : World) (o : BinOp) (x y : Operand) (a b c a' b' c' : Int) : (eqGuard o 50 x y (.agg #[.int .i64 a, .int .u64 b, .int .i64 c]) (.agg #[.int .i64 a', .int .u64 b', .int .i64 c'])).run Try.prog w = .ok () w :=
  run_eqGuard_agg w o _ x y _ _ (by kernel_rfl)
/-- the example's digests -/
def X1 (m : Nat) : DV := if m = 0 then DV.none_k 1 else if m = 1 then (DV.none_k 1).ins0 5 else if m = 2 then ((DV.none_k 1).ins0 5).ins0 5 else (((DV.none_k 1).ins0 5).ins0 5).ins0 9
theorem X1_3 : X1 3 = ⟨1, 3, [(5, 2), (9, 1)]⟩ := by rfl
theorem X1_n5 : NodeC 5 := by decide
theorem X1_n9 : NodeC 9 := by decide
theorem X1_gr5 : gr 5 = 5 := by decide
theorem X1_gr9 : gr 9 = 9 := by decide
theorem X1_by : byG [(5, 2), (9, 1)] = [(5, 2), (9, 1)] := by decide +kernel
theorem X1_r2 : rankV (rankG (byG [(5, 2), (9, 1)]) 2) = .tuple #[.int .u64 5, .bool true] := by rw [X1_by]; unfold rankG; rw [if_pos (by decide), X1_gr5]; rfl
theorem X1_r3 : rankV (rankG (byG [(5, 2), (9, 1)]) 3) = .tuple #[.int .u64 9, .bool true] := by rw [X1_by]; unfold rankG; rw [if_neg (by decide)]; unfold rankG; rw [if_pos (by decide), X1_gr9]; rfl
set_option maxHeartbeats 6400000 in
theorem lives_any (w : World) : Calls Try.prog 11 #[] w fun e w' => e = .returned (.bool true) ∧ Below w.heap.size w w' := by
  have K1 := side_dnew (Side.nil w) 1 (k := 1) (by omega) (by omega)
  have a0 : ∀ W, (Instr.index 66 (.agg #[.int .u64 5, .int .u64 5, .int .u64 9]) (.int .i64 0)).run Try.prog W = .ok (.int .u64 5) W := fun _ => by kernel_rfl
  have a1 : ∀ W, (Instr.index 66 (.agg #[.int .u64 5, .int .u64 5, .int .u64 9]) (.int .i64 1)).run Try.prog W = .ok (.int .u64 5) W := fun _ => by kernel_rfl
  have a2 : ∀ W, (Instr.index 66 (.agg #[.int .u64 5, .int .u64 5, .int .u64 9]) (.int .i64 2)).run Try.prog W = .ok (.int .u64 9) W := fun _ => by kernel_rfl
  go_enter Try.func11, Try.ntmps11
  go_wp2_with fail
  refine K1.mono ?_
  rintro e w1 ⟨p, rfl, S1⟩
  clear K1
  go_wp2_with fail
  go_loopw [13] (fun k wr => ∃ m : Nat, k = .int .i64 m ∧ m ≤ 3 ∧ Hid (Side w [(1, Dk p (X1 m))] wr)) (fun k _ => 3 - (intOf k).toNat)
  case atStart => exact ⟨0, rfl, by omega, S1⟩
  case round =>
    clear S1
    obtain ⟨m, rfl, hm, HR⟩ := hrel
    rcases (by omega : m = 0 ∨ m = 1 ∨ m = 2 ∨ m = 3) with rfl | rfl | rfl | rfl
    · have KI : Calls Try.prog 12 #[.pointer (some ⟨p, 0, none⟩), .int .u64 5] wr fun e w' => e = .returned (.tuple #[]) ∧ Hid (Side w [(1, Dk p (X1 1))] w') := side_dins0 (x := 5) HR.out (fun _ h => by cases h) (by decide) (by decide) (by decide)
      clear HR
      go_wp2_with fail
      refine KI.mono ?_
      rintro e w5 ⟨rfl, S6⟩
      clear KI
      go_wp2_with fail
      go_roundw
      case rel => exact ⟨1, rfl, by omega, S6⟩
      case measure => simp [intOf]
    · have KI : Calls Try.prog 12 #[.pointer (some ⟨p, 0, none⟩), .int .u64 5] wr fun e w' => e = .returned (.tuple #[]) ∧ Hid (Side w [(1, Dk p (X1 2))] w') := side_dins0 (x := 5) HR.out (fun _ h => by cases h) (by decide) (by decide) (by decide)
      clear HR
      go_wp2_with fail
      refine KI.mono ?_
      rintro e w5 ⟨rfl, S6⟩
      clear KI
      go_wp2_with fail
      go_roundw
      case rel => exact ⟨2, rfl, by omega, S6⟩
      case measure => simp [intOf]
    · have KI : Calls Try.prog 12 #[.pointer (some ⟨p, 0, none⟩), .int .u64 9] wr fun e w' => e = .returned (.tuple #[]) ∧ Hid (Side w [(1, Dk p (X1 3))] w') := side_dins0 (x := 9) HR.out (fun _ h => by cases h) (by decide) (by decide) (by decide)
      clear HR
      go_wp2_with fail
      refine KI.mono ?_
      rintro e w5 ⟨rfl, S6⟩
      clear KI
      go_wp2_with fail
      go_roundw
      case rel => exact ⟨3, rfl, by omega, S6⟩
      case measure => simp [intOf]
    · have S3 := HR.out
      rw [X1_3] at S3
      have hm0 : ((1, Dk p ⟨1, 3, [(5, 2), (9, 1)]⟩) : Nat × Thing) ∈ [((1, Dk p ⟨1, 3, [(5, 2), (9, 1)]⟩) : Nat × Thing)] := List.mem_cons_self ..
      have KN := side_dnodes S3 hm0 (by decide)
      have HS := Lib.hid S3
      have KR := Lib.hid (fun W (hb : Below wr.heap.size wr W) (r : Int) (h1 : 1 ≤ r) (h2 : r ≤ 3) => side_drank (S3.below hb) hm0 (by decide) (fun q hq => by
        simp at hq
        rcases hq with rfl | rfl
        · exact X1_n5
        · exact X1_n9) h1 h2)
      have KT1 : ∀ W, Calls Try.prog 25 #[.int .i64 10, .int .i64 500] W fun e w' => e = .returned (.int .i64 5) ∧ W = w' := fun W => target_any (n := 10) (m := 500) (by unfold InI; omega) W
      have KT2 : ∀ W, Calls Try.prog 25 #[.int .i64 1, .int .i64 0] W fun e w' => e = .returned (.int .i64 1) ∧ W = w' := fun W => target_any (n := 1) (m := 0) (by unfold InI; omega) W
      have KE := eql_node
      have KU := guard_node
      clear HR S3 hm0
      go_wp2_with fail
      refine KN.mono ?_
      rintro e w2 ⟨g, c, rfl, hg, hc, hrow, hb⟩
      have KR2 := KR.out _ hb 2 (by decide) (by decide)
      rw [X1_r2] at KR2
      have HC := Lib.hid (And.intro hrow hb)
      clear KN hg hrow hb
      go_wp2_with fail
      refine KR2.mono ?_
      rintro e w3 ⟨rfl, hb⟩
      have HC3 := Lib.hid (And.intro (HC.out.1.below hb) (HC.out.2.trans (hb.mono HC.out.2.size)))
      have KR3 := KR.out _ HC3.out.2 3 (by decide) (by decide)
      rw [X1_r3] at KR3
      clear KR2 hb HC
      go_wp2_with fail
      refine KR3.mono ?_
      rintro e w4 ⟨rfl, hb⟩
      have HC4 := Lib.hid (And.intro (HC3.out.1.below hb) (HC3.out.2.trans (hb.mono HC3.out.2.size)))
      have m0 := HC4.out.1.cell (k := 0) (p := (5, 2)) rfl
      have q0 : w4.cell? ⟨g, 0, none⟩ = some (.int .i64 0) := m0.1
      have q1 : w4.cell? ⟨g, 1, none⟩ = some (.int .u64 5) := m0.2.1
      have q2 : w4.cell? ⟨g, 2, none⟩ = some (.int .i64 2) := m0.2.2
      have HF := Lib.hid HC4.out.2
      have HB0 := Lib.hid HS.out.base
      clear KR3 hb HC3 HC4 m0 KR HS
      go_wp2_with fail
      refine (KT1 _).mono ?_
      rintro e w' ⟨rfl, rfl⟩
      go_wp2_with fail
      refine (KT2 _).mono ?_
      rintro e w' ⟨rfl, rfl⟩
      go_wp2_with fail
      go_ret
      exact ⟨rfl, HB0.out.trans (HF.out.mono HB0.out.size)⟩
end Go.Proofs.Ytaaphkjimlfgoaa
