/- The texts DigSide DigNone DigFewLaw, one behind the other; each one's own comment says what it holds. -/
import Derived.Test.YtahaoodklfmddaaDigestActsRowGA
import Derived.Test.YtahaoodklfmddaaDigTarget
import Derived.Test.YtahaoodklfmddaaDigestActsRowGM
import Derived.Laws.StructEq
import Derived.ProofKit
import Derived.OpenShut
import Derived.ChangeOld
import Derived.Test.YtahaoodklfmddaaDigestActsRowGB
/- The calls of a digest where several things stand side by side; the document's examples hold in any world. Conditions: few nodes. -/
set_option maxRecDepth 100000
namespace Go.Proofs.Ytahaoodklfmddaa
open Go.RowKit Go.Maps Go.Sort Go.Shelf

section
variable {w0 w : World} {E : List (Nat × Thing)} {i : Nat} {p : Nat} {V : DV}
theorem side_thing (h : Side w0 E w) {A : Thing} (hx : (i, A) ∈ E) : ∃ T, A T i w := by
  obtain ⟨T, h⟩ := h
  exact ⟨T, (h.at_ _ hx).2⟩
theorem side_dnew (h : Side w0 E w) (i : Nat) {k : Nat} (h1 : 1 ≤ k) (h2 : k ≤ 64) :
    Calls Try.prog 6 #[.int .i64 k] w fun e w' => ∃ p, e = .returned (.pointer (some ⟨p, 0, none⟩)) ∧ Hid (Side w0 ((i, Dk p (DV.none_k k)) :: E) w') :=
  h.make i (fun p => Dk p (DV.none_k k)) (fun p => Dk.framed p _) (R := fun p e => e = .returned (.pointer (some ⟨p, 0, none⟩))) fun T _ => new_yes h1 h2 T i
theorem side_dins0 (h : Side w0 ((i, Dk p V) :: E) w) (hi : ∀ e ∈ E, e.1 ≠ i) {x : Nat} (hx : x < 18446744073709551616) (hn : V.n < 1125899906842624) (hl : V.L.length < 3 * V.k + 64) :
    Calls Try.prog 9 #[.pointer (some ⟨p, 0, none⟩), .int .u64 (x : Int)] w fun e w' => e = .returned (.tuple #[]) ∧ Hid (Side w0 ((i, Dk p (V.ins0 x)) :: E) w') :=
  (h.step hi (Dk.framed p (V.ins0 x)) (Pr := fun e => e = .returned (.tuple #[])) fun _ _ hA => (ins_few (hA _ (List.mem_cons_self ..)) x hx hn hl).mono fun _ _ ⟨a, b⟩ => ⟨a, b.out⟩).mono fun _ _ ⟨a, b⟩ => ⟨a, b⟩
theorem side_dnodes (h : Side w0 E w) (hx : (i, Dk p V) ∈ E) (hl : V.L.length ≤ 100000) : Calls Try.prog 17 #[.pointer (some ⟨p, 0, none⟩)] w (NodesAt w V.L) := by
  obtain ⟨T, b, hA, hG⟩ := side_thing h hx
  obtain ⟨c0, _, c2, _⟩ := hA.cells
  exact nodes_at c0 hG.k1 c2 hA.map hl
theorem side_drank (h : Side w0 E w) (hx : (i, Dk p V) ∈ E) (hl : V.L.length < 20) (hN : ∀ q ∈ V.L, NodeC q.1) {r : Int} (h1 : 1 ≤ r) (h2 : r ≤ V.n) :
    Calls Try.prog 18 #[.pointer (some ⟨p, 0, none⟩), .int .i64 r] w fun e w' => e = .returned (rankV (rankG (byG V.L) r)) ∧ Below w.heap.size w w' := by
  obtain ⟨T, b, hA, hG⟩ := side_thing h hx
  refine rank_few hA hG.k1 hl hN (fun q hq => ?_) h1 h2 (by have := hG.n50; omega)
  have hq' : q ∈ V.L := by
    have hp := (byG_perm V.L).2.2
    have e1 : V.L.toArray.extract 0 V.L.length = V.L.toArray := by
      have : V.L.toArray.size = V.L.length := by simp
      rw [← this]; simp
    have e2 : (byG V.L).toArray.extract 0 V.L.length = (byG V.L).toArray := by
      have : (byG V.L).toArray.size = V.L.length := by simp [byG_len]
      rw [← this]; simp
    rw [e1, e2] at hp
    exact hp.mem_iff.1 hq
  exact ⟨hG.pos q hq', by have := hG.le q hq'; have := hG.n50; omega⟩
end
theorem eql_node (w : World) (a b c : Int) : (binOp .eql 50 (.agg #[.int .i64 a, .int .u64 b, .int .i64 c]) (.agg #[.int .i64 a, .int .u64 b, .int .i64 c])).run Try.prog w = .ok (.bool true) w := by
  have u3 := Try.underlying3
  have u9 := Try.underlying29
  have hS : Try.prog.underlying 50 = some (.struct (Try.prog.fieldsOf 50)) := by kernel_rfl
  have hp : Try.prog.stoodInHeld 50 = false := by kernel_rfl
  rw [run_eql_struct, show (10000 : Nat) = 9999 + 1 from rfl, run_equalIn_agg w 9999 50 _ _ hS hp]
  simp only [Program.fieldsOf, Try.underlying50]
  go_simp
theorem guard_node (w : World) (o : BinOp) (x y : Operand) (a b c a' b' c' : Int) : (eqGuard o 50 x y (.agg #[.int .i64 a, .int .u64 b, .int .i64 c]) (.agg #[.int .i64 a', .int .u64 b', .int .i64 c'])).run Try.prog w = .ok () w :=
  run_eqGuard_agg w o _ x y _ _ (by kernel_rfl)
/-- the example's digests -/
def X1 (m : Nat) : DV := if m = 0 then DV.none_k 1 else if m = 1 then (DV.none_k 1).ins0 5 else if m = 2 then ((DV.none_k 1).ins0 5).ins0 5 else (((DV.none_k 1).ins0 5).ins0 5).ins0 9
theorem X1_3 : X1 3 = ⟨1, 3, [(5, 2), (9, 1)]⟩ := by rfl
theorem X1_n5 : NodeC 5 := by decide
theorem X1_n9 : NodeC 9 := by decide
theorem X1_gr5 : gr 5 = 5 := by decide
theorem X1_gr9 : gr 9 = 9 := by decide
theorem X1_by : byG [(5, 2), (9, 1)] = [(5, 2), (9, 1)] := by decide +kernel
theorem X1_r2 : rankV (rankG (byG [(5, 2), (9, 1)]) 2) = .tuple #[.int .u64 5, .bool true] := by rw [X1_by]; unfold rankG; rw [if_pos (by decide), X1_gr5]; rfl
theorem X1_r3 : rankV (rankG (byG [(5, 2), (9, 1)]) 3) = .tuple #[.int .u64 9, .bool true] := by rw [X1_by]; unfold rankG; rw [if_neg (by decide)]; unfold rankG; rw [if_pos (by decide), X1_gr9]; rfl
set_option maxHeartbeats 6400000 in
theorem lives_any (w : World) : Calls Try.prog 8 #[] w fun e w' => e = .returned (.bool true) ∧ Below w.heap.size w w' := by
  have K1 := side_dnew (Side.nil w) 1 (k := 1) (by omega) (by omega)
  have a0 : ∀ W, (Instr.index 63 (.agg #[.int .u64 5, .int .u64 5, .int .u64 9]) (.int .i64 0)).run Try.prog W = .ok (.int .u64 5) W := fun _ => by kernel_rfl
  have a1 : ∀ W, (Instr.index 63 (.agg #[.int .u64 5, .int .u64 5, .int .u64 9]) (.int .i64 1)).run Try.prog W = .ok (.int .u64 5) W := fun _ => by kernel_rfl
  have a2 : ∀ W, (Instr.index 63 (.agg #[.int .u64 5, .int .u64 5, .int .u64 9]) (.int .i64 2)).run Try.prog W = .ok (.int .u64 9) W := fun _ => by kernel_rfl
  go_enter Try.func8, Try.ntmps8
  go_wp2_with fail
  refine K1.mono ?_
  rintro e w1 ⟨p, rfl, S1⟩
  clear K1
  go_wp2_with fail
  go_loopw [13] (fun k wr => ∃ m : Nat, k = .int .i64 m ∧ m ≤ 3 ∧ Hid (Side w [(1, Dk p (X1 m))] wr)) (fun k _ => 3 - (intOf k).toNat)
  case atStart => exact ⟨0, rfl, by omega, S1⟩
  case round =>
    clear S1
    obtain ⟨m, rfl, hm, HR⟩ := hrel
    rcases (by omega : m = 0 ∨ m = 1 ∨ m = 2 ∨ m = 3) with rfl | rfl | rfl | rfl
    · have KI : Calls Try.prog 9 #[.pointer (some ⟨p, 0, none⟩), .int .u64 5] wr fun e w' => e = .returned (.tuple #[]) ∧ Hid (Side w [(1, Dk p (X1 1))] w') := side_dins0 (x := 5) HR.out (fun _ h => by cases h) (by decide) (by decide) (by decide)
      clear HR
      go_wp2_with fail
      refine KI.mono ?_
      rintro e w5 ⟨rfl, S6⟩
      clear KI
      go_wp2_with fail
      go_roundw
      case rel => exact ⟨1, rfl, by omega, S6⟩
      case measure => simp [intOf]
    · have KI : Calls Try.prog 9 #[.pointer (some ⟨p, 0, none⟩), .int .u64 5] wr fun e w' => e = .returned (.tuple #[]) ∧ Hid (Side w [(1, Dk p (X1 2))] w') := side_dins0 (x := 5) HR.out (fun _ h => by cases h) (by decide) (by decide) (by decide)
      clear HR
      go_wp2_with fail
      refine KI.mono ?_
      rintro e w5 ⟨rfl, S6⟩
      clear KI
      go_wp2_with fail
      go_roundw
      case rel => exact ⟨2, rfl, by omega, S6⟩
      case measure => simp [intOf]
    · have KI : Calls Try.prog 9 #[.pointer (some ⟨p, 0, none⟩), .int .u64 9] wr fun e w' => e = .returned (.tuple #[]) ∧ Hid (Side w [(1, Dk p (X1 3))] w') := side_dins0 (x := 9) HR.out (fun _ h => by cases h) (by decide) (by decide) (by decide)
      clear HR
      go_wp2_with fail
      refine KI.mono ?_
      rintro e w5 ⟨rfl, S6⟩
      clear KI
      go_wp2_with fail
      go_roundw
      case rel => exact ⟨3, rfl, by omega, S6⟩
      case measure => simp [intOf]
    · have S3 := HR.out
      rw [X1_3] at S3
      have hm0 : ((1, Dk p ⟨1, 3, [(5, 2), (9, 1)]⟩) : Nat × Thing) ∈ [((1, Dk p ⟨1, 3, [(5, 2), (9, 1)]⟩) : Nat × Thing)] := List.mem_cons_self ..
      have KN := side_dnodes S3 hm0 (by decide)
      have HS := Lib.hid S3
      have KR := Lib.hid (fun W (hb : Below wr.heap.size wr W) (r : Int) (h1 : 1 ≤ r) (h2 : r ≤ 3) => side_drank (S3.below hb) hm0 (by decide) (fun q hq => by
        simp at hq
        rcases hq with rfl | rfl
        · exact X1_n5
        · exact X1_n9) h1 h2)
      have KT1 : ∀ W, Calls Try.prog 22 #[.int .i64 10, .int .i64 500] W fun e w' => e = .returned (.int .i64 5) ∧ W = w' := fun W => target_any (n := 10) (m := 500) (by unfold InI; omega) W
      have KT2 : ∀ W, Calls Try.prog 22 #[.int .i64 1, .int .i64 0] W fun e w' => e = .returned (.int .i64 1) ∧ W = w' := fun W => target_any (n := 1) (m := 0) (by unfold InI; omega) W
      have KE := eql_node
      have KU := guard_node
      clear HR S3 hm0
      go_wp2_with fail
      refine KN.mono ?_
      rintro e w2 ⟨g, c, rfl, hg, hc, hrow, hb⟩
      have KR2 := KR.out _ hb 2 (by decide) (by decide)
      rw [X1_r2] at KR2
      have HC := Lib.hid (And.intro hrow hb)
      clear KN hg hrow hb
      go_wp2_with fail
      refine KR2.mono ?_
      rintro e w3 ⟨rfl, hb⟩
      have HC3 := Lib.hid (And.intro (HC.out.1.below hb) (HC.out.2.trans (hb.mono HC.out.2.size)))
      have KR3 := KR.out _ HC3.out.2 3 (by decide) (by decide)
      rw [X1_r3] at KR3
      clear KR2 hb HC
      go_wp2_with fail
      refine KR3.mono ?_
      rintro e w4 ⟨rfl, hb⟩
      have HC4 := Lib.hid (And.intro (HC3.out.1.below hb) (HC3.out.2.trans (hb.mono HC3.out.2.size)))
      have m0 := HC4.out.1.cell (k := 0) (p := (5, 2)) rfl
      have q0 : w4.cell? ⟨g, 0, none⟩ = some (.int .i64 0) := m0.1
      have q1 : w4.cell? ⟨g, 1, none⟩ = some (.int .u64 5) := m0.2.1
      have q2 : w4.cell? ⟨g, 2, none⟩ = some (.int .i64 2) := m0.2.2
      have HF := Lib.hid HC4.out.2
      have HB0 := Lib.hid HS.out.base
      clear KR3 hb HC3 HC4 m0 KR HS
      go_wp2_with fail
      refine (KT1 _).mono ?_
      rintro e w' ⟨rfl, rfl⟩
      go_wp2_with fail
      refine (KT2 _).mono ?_
      rintro e w' ⟨rfl, rfl⟩
      go_wp2_with fail
      go_ret
      exact ⟨rfl, HB0.out.trans (HF.out.mono HB0.out.size)⟩
end Go.Proofs.Ytahaoodklfmddaa
/- The walk of DigestNone: a digest that no call made does nothing. Conditions: none. -/
set_option maxRecDepth 100000
namespace Go.Proofs.Ytahaoodklfmddaa
open Go.RowKit Go.Maps Go.Sort Go.Shelf

theorem own : ownKnob Try.prog.godebug = none := by kernel_rfl
theorem laidOut : laidOutB Try.prog = true := by kernel_rfl
theorem dmerge_arg {w : World} {p k : Nat} (hk : 1 ≤ k) (c0 : w.cell? ⟨p, 0, none⟩ = some (.int .i64 k)) {x : Option Addr} (h : NoD w x) :
    Calls Try.prog 11 #[.pointer (some ⟨p, 0, none⟩), .pointer x] w fun e w' => e = .returned (.int .i64 2) ∧ Below w.heap.size w w' := by
  have K1 := made_at hk c0
  have K2 := made_noD (show NoD w.drew x from h)
  unfold MadeNoD at K2
  clear h hk
  go_enter Try.func11, Try.ntmps11
  go_wp2_with fail
  refine K1.mono ?_
  rintro e w' ⟨rfl, rfl⟩
  clear K1
  go_wp2_with fail
  refine wp_region_mix (fun _ => True) 15 [(true, 0), (false, 1), (true, 2), (true, 3), (true, 4), (true, 5), (true, 6), (true, 7), (true, 8), (true, 9), (true, 10), (true, 11), (true, 12), (true, 13), (true, 14)] (by kernel_rfl) (by decide +kernel) rfl (by decide +kernel) trivial ?_
  iterate 1
    refine wpMix_take (v := ?_) rfl rfl ?_ ?_
    rotate_left
    · (intro W hW; (try dsimp only at hW); go_simp) <;> with_reducible rfl
    simp only [Act.put, List.setIfInBounds_toArray, List.set_cons_zero, List.set_cons_succ]
  refine wpMix_run rfl ?_
  intro K' hK
  go_wp2_with fail
  refine K2.mono ?_
  rintro e w' ⟨rfl, rfl⟩
  go_wp2_with fail
  refine hK.out _ _ (fun _ => trivial) ?_
  clear hK K' K2
  iterate 2
    refine wpMix_take (v := ?_) rfl rfl ?_ ?_
    rotate_left
    · (intro W hW; (try dsimp only at hW); go_simp) <;> with_reducible rfl
    simp only [Act.put, List.setIfInBounds_toArray, List.set_cons_zero, List.set_cons_succ]
  iterate 9
    refine wpMix_skip rfl rfl ?_
    simp only [Act.put, List.setIfInBounds_toArray, List.set_cons_zero, List.set_cons_succ]
  iterate 2
    refine wpMix_take (v := ?_) rfl rfl ?_ ?_
    rotate_left
    · (intro W hW; (try dsimp only at hW); go_simp) <;> with_reducible rfl
    simp only [Act.put, List.setIfInBounds_toArray, List.set_cons_zero, List.set_cons_succ]
  refine wpMix_nil ?_
  go_wp2_with fail
  go_ret
  exact ⟨rfl, (below_drew1 _)⟩
/-- New, whatever the number: nil, or a digest -/
def NewAny (w : World) (e : Ending) (w' : World) : Prop :=
  (e = .returned (.pointer none) ∧ Below w.heap.size w w') ∨ (∃ p V, e = .returned (.pointer (some ⟨p, 0, none⟩)) ∧ Side w [(1, Dk p V)] w')
theorem new_either (w : World) (m : Int) : Calls Try.prog 6 #[.int .i64 m] w (NewAny w) := by
  by_cases h : m < 1 ∨ 64 < m
  · exact (new_no m h w).mono fun e w' ⟨a, b⟩ => .inl ⟨a, b ▸ Below.refl _ _⟩
  · obtain ⟨k, rfl⟩ : ∃ k : Nat, m = k := ⟨m.toNat, by omega⟩
    exact (side_dnew (Side.nil w) 1 (k := k) (by omega) (by omega)).mono fun e w' ⟨p, a, b⟩ => .inr ⟨p, _, a, b.out⟩
end Go.Proofs.Ytahaoodklfmddaa
/- The walk of DigestFew: of fewer numbers than k ranks are exact. Conditions: none. -/
set_option maxRecDepth 100000
namespace Go.Proofs.Ytahaoodklfmddaa
open Go.RowKit Go.Maps Go.Sort Go.Shelf

theorem node_low {c : Nat} (h : c < 18446744073709551616) : NodeC c := by
  unfold NodeC
  have e1 : c / 18446744073709551616 = 0 := by omega
  rw [e1]
  exact ⟨by omega, by have : (2 : Nat) ^ (64 - 0) = 18446744073709551616 := by decide
                      omega⟩
theorem gr_low {c : Nat} (h : c < 18446744073709551616) : gr c = c := by
  unfold gr
  rw [asN_eq (node_low h)]
  have e1 : c / 18446744073709551616 = 0 := by omega
  rw [e1]
  omega
theorem dasc_nodup {L : DL} (h : DAsc L) : (L.map Prod.fst).Nodup := by
  unfold List.Nodup
  rw [List.pairwise_map]
  exact h.imp fun {a b} h => Nat.ne_of_lt h
/-- below a rank's number there are fewer, up to it as many -/
theorem few_counts {k : Nat} {xs : List Nat} {V : DV} (hO : DV.Of k xs V) (hx : ∀ x ∈ xs, x < 18446744073709551616) {D A B : DL} {p : Nat × Int} (hR : RankedG V.L D) (hD : D = A ++ p :: B) {r : Int} (h1 : total A < r) (h2 : r ≤ total A + p.2) :
    (xs.countP (fun y => decide (y < gr p.1)) : Int) < r ∧ r ≤ (xs.countP (fun y => decide (y ≤ gr p.1)) : Int) ∧ gr p.1 < 18446744073709551616 := by
  have hlow : ∀ q ∈ D, q.1 < 18446744073709551616 := fun q hq => hx _ (hO.codes q (hR.perm.mem_iff.1 hq))
  have hnd : (D.map Prod.fst).Nodup := (hR.perm.map Prod.fst).nodup_iff.2 (dasc_nodup hO.asc)
  have hpD : p ∈ D := by rw [hD]; simp
  have hgp := gr_low (hlow p hpD)
  have ho := hR.order
  rw [hD] at ho hnd
  obtain ⟨_, o2, o3⟩ := List.pairwise_append.1 ho
  rw [List.map_append, List.map_cons] at hnd
  unfold List.Nodup at hnd
  obtain ⟨_, n2, n3⟩ := List.pairwise_append.1 hnd
  have hA : ∀ a ∈ A, a.1 < p.1 := fun a ha => by
    have h := o3 a ha p (List.mem_cons_self ..)
    rw [ltG_no, hgp, gr_low (hlow a (by rw [hD]; exact List.mem_append_left _ ha))] at h
    have := n3 a.1 (List.mem_map_of_mem ha) p.1 (List.mem_cons_self ..)
    omega
  have hB : ∀ b ∈ B, p.1 < b.1 := fun b hb => by
    have h := (List.pairwise_cons.1 o2).1 b hb
    rw [ltG_no, hgp, gr_low (hlow b (by rw [hD]; exact List.mem_append_right _ (List.mem_cons_of_mem _ hb)))] at h
    have := (List.pairwise_cons.1 n2).1 b.1 (List.mem_map_of_mem hb)
    omega
  have c1 : csum (fun y => decide (y < p.1)) D = total A := by
    rw [hD, csum_append, csum_all (fun a ha => by simpa using hA a ha)]
    show total A + ((if decide (p.1 < p.1) then p.2 else 0) + csum _ B) = total A
    rw [csum_no (L := B) (fun b hb => by have := hB b hb; simp; omega)]
    simp
  have c2 : csum (fun y => decide (y ≤ p.1)) D = total A + p.2 := by
    rw [hD, csum_append, csum_all (fun a ha => by have := hA a ha; simp; omega)]
    show total A + ((if decide (p.1 ≤ p.1) then p.2 else 0) + csum _ B) = total A + p.2
    rw [csum_no (L := B) (fun b hb => by have := hB b hb; simp; omega)]
    simp
  have s1 := hO.sums fun y => decide (y < p.1)
  have s2 := hO.sums fun y => decide (y ≤ p.1)
  rw [csum_perm _ hR.perm.symm] at s1 s2
  rw [hgp]
  refine ⟨?_, ?_, hlow p hpD⟩
  · rw [← s1, c1]; exact h1
  · rw [← s2, c2]; exact h2
theorem total_of {k : Nat} {xs : List Nat} {V : DV} (hO : DV.Of k xs V) {D : DL} (hR : RankedG V.L D) : total D = xs.length := by
  unfold total
  rw [csum_perm _ hR.perm, hO.sums]
  simp
theorem countP_take (f : Nat → Bool) {xs : List Nat} {m x : Nat} (h : xs[m]? = some x) : (xs.take (m + 1)).countP f = (xs.take m).countP f + (if f x then 1 else 0) := by
  obtain ⟨hm, rfl⟩ := List.getElem?_eq_some_iff.1 h
  rw [← List.take_append_getElem hm, List.countP_append, List.countP_singleton]
theorem side_drank_all {w0 w : World} {E : List (Nat × Thing)} {i p : Nat} {V : DV} (h : Side w0 E w) (hx : (i, Dk p V) ∈ E) (hl : V.L.length ≤ 100000) (hN : ∀ q ∈ V.L, NodeC q.1) {r : Int} (h1 : 1 ≤ r) (h2 : r ≤ V.n) :
    Calls Try.prog 18 #[.pointer (some ⟨p, 0, none⟩), .int .i64 r] w fun e w' => ∃ D, RankedG V.L D ∧ e = .returned (rankV (rankG D r)) ∧ Below w.heap.size w w' := by
  obtain ⟨T, b, hA, hG⟩ := side_thing h hx
  exact rank_all hA hG.k1 hl hN (fun q hq => ⟨hG.pos q hq, by have := hG.le q hq; have := hG.n50; omega⟩) h1 h2 (by have := hG.n50; omega)
theorem side_pos {w0 w : World} {E : List (Nat × Thing)} {i p : Nat} {V : DV} (h : Side w0 E w) (hx : (i, Dk p V) ∈ E) : ∀ q ∈ V.L, 1 ≤ q.2 := by
  obtain ⟨T, b, hA, hG⟩ := side_thing h hx
  exact hG.pos
theorem wi_small {m n : Nat} (h : m < n) (hn : n ≤ 1000000000) : IntKind.i64.wrap ((m : Int) + 1) = (m : Int) + 1 := by rw [IntKind.wrap_i64]; omega
end Go.Proofs.Ytahaoodklfmddaa
