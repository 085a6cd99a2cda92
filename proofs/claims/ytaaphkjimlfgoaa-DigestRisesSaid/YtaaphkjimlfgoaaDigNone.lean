/- The walk of DigestNone: a digest that no call made does nothing. Conditions: none. -/
import Derived.Test.YtaaphkjimlfgoaaDigSide
import Derived.ProofKit
import Derived.OpenShut
import Derived.ChangeOld
set_option maxRecDepth 100000
namespace Go.Proofs.Ytaaphkjimlfgoaa
open Go.RowKit Go.Maps Go.Sort Go.Shelf

theorem own : ownKnob Try.prog.godebug = none := by kernel_rfl
theorem laidOut : laidOutB Try.prog = true := by kernel_rfl
theorem dmerge_arg {w : World} {p k : Nat} (hk : 1 ≤ k) (c0 : w.cell? ⟨p, 0, none⟩ = some (.int .i64 k)) {x : Option Addr} (h : NoD w x) :
    Calls Try.prog 14 #[.pointer (some ⟨p, 0, none⟩), .pointer x] w fun e w' => e = .returned (.int .i64 2) ∧ Below w.heap.size w w' := by
  have K1 := made_at hk c0
  have K2 := made_noD (show NoD w.drew x from h)
  unfold MadeNoD at K2
  clear h hk
  go_enter Try.func14, Try.ntmps14
  go_wp2_with fail
  refine K1.mono ?_
  rintro e w' ⟨rfl, rfl⟩
  clear K1
  go_wp2_with fail
  refine wp_region_mix (fun _ => True) 15 [(true, 0), (false, 1), (true, 2), (true, 3), (true, 4), (true, 5), (true, 6), (true, 7), (true, 8), (true, 9), (true, 10), (true, 11), (true, 12), (true, 13), (true, 14)] (by kernel_rfl) (by decide +kernel) rfl (by decide +kernel) trivial ?_
  iterate 1
    refine wpMix_take (v := ?_) rfl rfl ?_ ?_
    rotate_left
    · (intro W hW; (try dsimp only at hW); go_simp) <;> with_reducible rfl
    simp only [Act.put, List.setIfInBounds_toArray, List.set_cons_zero, List.set_cons_succ]
  refine wpMix_run rfl ?_
  intro K' hK
  go_wp2_with fail
  refine K2.mono ?_
  rintro e w' ⟨rfl, rfl⟩
  go_wp2_with fail
  refine hK.out _ _ (fun _ => trivial) ?_
  clear hK K' K2
  iterate 2
    refine wpMix_take (v := ?_) rfl rfl ?_ ?_
    rotate_left
    · (intro W hW; (try dsimp only at hW); go_simp) <;> with_reducible rfl
    simp only [Act.put, List.setIfInBounds_toArray, List.set_cons_zero, List.set_cons_succ]
  iterate 9
    refine wpMix_skip rfl rfl ?_
    simp only [Act.put, List.setIfInBounds_toArray, List.set_cons_zero, List.set_cons_succ]
  iterate 2
    refine wpMix_take (v := ?_) rfl rfl ?_ ?_
    rotate_left
    · (intro W hW; (try dsimp only at hW); go_simp) <;> with_reducible rfl
    simp only [Act.put, List.setIfInBounds_toArray, List.set_cons_zero, List.set_cons_succ]
  refine wpMix_nil ?_
  go_wp2_with fail
  go_ret
  exact ⟨rfl, (below_drew1 _)⟩
/-- New, whatever the number: nil, or a digest -/
def NewAny (w : World) (e : Ending) (w' : World) : Prop :=
  (e = .returned (.pointer none) ∧ Below w.heap.size w w') ∨ (∃ p V, e = .returned (.pointer (some ⟨p, 0, none⟩)) ∧ Side w [(1, Dk p V)] w')
theorem new_either (w : World) (m : Int) : Calls Try.prog 9 #[.int .i64 m] w (NewAny w) := by
  by_cases h : m < 1 ∨ 64 < m
  · exact (new_no m h w).mono fun e w' ⟨a, b⟩ => .inl ⟨a, b ▸ Below.refl _ _⟩
  · obtain ⟨k, rfl⟩ : ∃ k : Nat, m = k := ⟨m.toNat, by omega⟩
    exact (side_dnew (Side.nil w) 1 (k := k) (by omega) (by omega)).mono fun e w' ⟨p, a, b⟩ => .inr ⟨p, _, a, b.out⟩
set_option maxHeartbeats 6400000 in
theorem none_walk (k : Int) (x : Int) (w : World) :
    Calls Try.prog 6 #[.int .i64 k, .int .u64 x] w fun e w' => e = .returned (.bool true) ∧ Below w.heap.size w w' := by
  have KL := lives_any
  have KN := Lib.hid (fun W => new_either W k)
  have hz0 := heap_alloc_new w (.cells #[.int .i64 0, .int .i64 0, .map none] 57)
  have i0 : ∀ W, (Instr.index 58 (.agg #[.pointer none, .pointer (some ⟨w.heap.size, 0, none⟩)]) (.int .i64 0)).run Try.prog W = .ok (.pointer none) W := fun _ => by kernel_rfl
  have i1 : ∀ W, (Instr.index 58 (.agg #[.pointer none, .pointer (some ⟨w.heap.size, 0, none⟩)]) (.int .i64 1)).run Try.prog W = .ok (.pointer (some ⟨w.heap.size, 0, none⟩)) W := fun _ => by kernel_rfl
  obtain ⟨w1, hw1⟩ : ∃ w1, w1 = w.alloc (.cells #[.int .i64 0, .int .i64 0, .map none] 57) := ⟨_, rfl⟩
  have hz1 : w1.heap.size = w.heap.size + 1 := by rw [hw1]; simp
  have HI := Lib.hid (show ∀ W, Below w1.heap.size w1 W → NoD W (some ⟨w.heap.size, 0, none⟩) ∧ Below w.heap.size w W from fun W hb => by
    have h2 := (hb.block w.heap.size (by omega)).trans (hw1 ▸ hz0)
    refine ⟨.inr ⟨_, rfl, by rw [cell_of_row _ _ _ _ _ _ h2]; rfl⟩, ?_⟩
    have hB : Below w.heap.size w w1 := by rw [hw1]; exact (Below.refl _ _).alloc (Nat.le_refl _) _
    exact hB.trans (hb.mono (by omega)))
  clear hz0 hz1
  go_enter Try.func6, Try.ntmps6
  go_wp2_with fail
  (try rw [← hw1])
  clear hw1
  go_loopw [12] (fun j wr => ∃ r : Nat, j = .int .i64 r ∧ r ≤ 2 ∧ Hid (Below w1.heap.size w1 wr)) (fun j _ => 2 - (intOf j).toNat)
  case atStart => exact ⟨0, rfl, by omega, Lib.hid (Below.refl _ _)⟩
  case round =>
    obtain ⟨r, rfl, hr, HR⟩ := hrel
    rcases (by omega : r = 0 ∨ r = 1 ∨ r = 2) with rfl | rfl | rfl
    · have hN : NoD wr none := .inl rfl
      have HN := Lib.hid hN
      have K1 := ins_noD hN x
      have K2 := rank_noD hN 1
      have K3 := merge_noD hN none
      have K4 := nodes_noD hN
      have K5 := bytes_noD hN
      have K6 := count_noD hN
      have K7 := copy_noD hN
      have K8 := KN.out wr
      have HNX : Hid (∀ W', Below wr.heap.size wr W' → Below w1.heap.size w1 W') := Lib.hid fun W' hb => HR.out.trans (hb.mono HR.out.size)
      clear hN hr HR
      go_wp2_with fail
      refine K1.mono ?_
      rintro e w' ⟨rfl, rfl⟩
      clear K1
      go_wp2_with fail
      refine K2.mono ?_
      rintro e w' ⟨rfl, rfl⟩
      clear K2
      go_wp2_with fail
      refine K3.mono ?_
      rintro e w' ⟨rfl, rfl⟩
      clear K3
      go_wp2_with fail
      refine K4.mono ?_
      rintro e w' ⟨rfl, rfl⟩
      clear K4
      go_wp2_with fail
      refine K5.mono ?_
      rintro e w' ⟨rfl, rfl⟩
      clear K5
      go_wp2_with fail
      refine K6.mono ?_
      rintro e w' ⟨rfl, rfl⟩
      clear K6
      go_wp2_with fail
      refine K7.mono ?_
      rintro e w' ⟨rfl, rfl⟩
      clear K7
      go_wp2_with fail
      refine K8.mono ?_
      rintro e w5 hne
      clear K8
      rcases hne with ⟨rfl, hb⟩ | ⟨p, V, rfl, S5⟩
      · have HF := Lib.hid (HNX.out _ hb)
        clear hb HNX
        go_wp2_with fail
        go_roundw
        case rel => exact ⟨1, rfl, by omega, HF⟩
        case measure => simp [intOf]
      · have KM : Calls Try.prog 14 #[.pointer (some ⟨p, 0, none⟩), .pointer none] w5 fun e w' => e = .returned (.int .i64 2) ∧ Below w5.heap.size w5 w' := by
          obtain ⟨T, b, hA, hG⟩ := side_thing S5 (List.mem_cons_self ..)
          exact dmerge_arg hG.k1 hA.cells.1 (HN.out.below S5.base)
        have HB5 := Lib.hid S5.base
        clear S5
        go_wp2_with fail
        refine KM.mono ?_
        rintro e w6 ⟨rfl, hb⟩
        have HF := Lib.hid (HNX.out _ (HB5.out.trans (hb.mono HB5.out.size)))
        clear KM hb HNX
        go_wp2_with fail
        go_roundw
        case rel => exact ⟨1, rfl, by omega, HF⟩
        case measure => simp [intOf]
    · have hN : NoD wr (some ⟨w.heap.size, 0, none⟩) := (HI.out _ HR.out).1
      have HN := Lib.hid hN
      have K1 := ins_noD hN x
      have K2 := rank_noD hN 1
      have K3 := merge_noD hN (some ⟨w.heap.size, 0, none⟩)
      have K4 := nodes_noD hN
      have K5 := bytes_noD hN
      have K6 := count_noD hN
      have K7 := copy_noD hN
      have K8 := KN.out wr
      have HNX : Hid (∀ W', Below wr.heap.size wr W' → Below w1.heap.size w1 W') := Lib.hid fun W' hb => HR.out.trans (hb.mono HR.out.size)
      clear hN hr HR
      go_wp2_with fail
      refine K1.mono ?_
      rintro e w' ⟨rfl, rfl⟩
      clear K1
      go_wp2_with fail
      refine K2.mono ?_
      rintro e w' ⟨rfl, rfl⟩
      clear K2
      go_wp2_with fail
      refine K3.mono ?_
      rintro e w' ⟨rfl, rfl⟩
      clear K3
      go_wp2_with fail
      refine K4.mono ?_
      rintro e w' ⟨rfl, rfl⟩
      clear K4
      go_wp2_with fail
      refine K5.mono ?_
      rintro e w' ⟨rfl, rfl⟩
      clear K5
      go_wp2_with fail
      refine K6.mono ?_
      rintro e w' ⟨rfl, rfl⟩
      clear K6
      go_wp2_with fail
      refine K7.mono ?_
      rintro e w' ⟨rfl, rfl⟩
      clear K7
      go_wp2_with fail
      refine K8.mono ?_
      rintro e w5 hne
      clear K8
      rcases hne with ⟨rfl, hb⟩ | ⟨p, V, rfl, S5⟩
      · have HF := Lib.hid (HNX.out _ hb)
        clear hb HNX
        go_wp2_with fail
        go_roundw
        case rel => exact ⟨2, rfl, by omega, HF⟩
        case measure => simp [intOf]
      · have KM : Calls Try.prog 14 #[.pointer (some ⟨p, 0, none⟩), .pointer (some ⟨w.heap.size, 0, none⟩)] w5 fun e w' => e = .returned (.int .i64 2) ∧ Below w5.heap.size w5 w' := by
          obtain ⟨T, b, hA, hG⟩ := side_thing S5 (List.mem_cons_self ..)
          exact dmerge_arg hG.k1 hA.cells.1 (HN.out.below S5.base)
        have HB5 := Lib.hid S5.base
        clear S5
        go_wp2_with fail
        refine KM.mono ?_
        rintro e w6 ⟨rfl, hb⟩
        have HF := Lib.hid (HNX.out _ (HB5.out.trans (hb.mono HB5.out.size)))
        clear KM hb HNX
        go_wp2_with fail
        go_roundw
        case rel => exact ⟨2, rfl, by omega, HF⟩
        case measure => simp [intOf]
    · have HB := Lib.hid (HI.out _ HR.out).2
      go_wp2_with fail
      refine (KL _).mono ?_
      rintro e w5 ⟨rfl, hb⟩
      have HF := Lib.hid (HB.out.trans (hb.mono HB.out.size))
      clear hb
      go_wp2_with fail
      go_ret
      exact ⟨rfl, HF.out⟩
end Go.Proofs.Ytaaphkjimlfgoaa
