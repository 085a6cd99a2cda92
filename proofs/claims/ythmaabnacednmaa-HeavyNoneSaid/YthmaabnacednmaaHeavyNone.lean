/- The walk of HeavyNone: a sketch that no call made does nothing. Conditions: none. -/
import Derived.Test.YthmaabnacednmaaHeavyLives
import Derived.Test.YthmaabnacednmaaHeavyNo
set_option maxRecDepth 100000
namespace Go.Proofs.Ythmaabnacednmaa
open Go.RowKit Go.Maps Go.Sort

/-- New, whatever the number: nil, or a sketch -/
def NewAny (w : World) (e : Ending) (w' : World) : Prop :=
  (e = .returned (.pointer none) ∧ Below w.heap.size w w') ∨ (∃ p V, e = .returned (.pointer (some ⟨p, 0, none⟩)) ∧ Side w [(0, Hk p V)] w')
theorem new_either (w : World) (m : Int) : Calls Try.prog 31 #[.int .i64 m] w (NewAny w) := by
  by_cases h : m < 1 ∨ 64 < m
  · exact (new_no h).mono fun e w' ⟨a, b⟩ => .inl ⟨a, b ▸ Below.refl _ _⟩
  · obtain ⟨k, rfl⟩ : ∃ k : Nat, m = k := ⟨m.toNat, by omega⟩
    exact (side_new (Side.nil w) 0 (m := k) (by omega) (by omega)).mono fun e w' ⟨p, a, b⟩ => .inr ⟨p, _, a, b.out⟩

set_option maxHeartbeats 6400000 in
theorem none_walk (w : World) (m x : Int) :
    Calls Try.prog 13 #[.int .i64 m, .int .i64 x] w fun e w' => e = .returned (.bool true) ∧ Below w.heap.size w w' := by
  have hz0 := heap_alloc_new w (.cells #[.int .i64 0, .int .i64 0, .map none] 96)
  have i0 : ∀ W, (Instr.index 97 (.agg #[.pointer none, .pointer (some ⟨w.heap.size, 0, none⟩)]) (.int .i64 0)).run Try.prog W = .ok (.pointer none) W := fun _ => by kernel_rfl
  have i1 : ∀ W, (Instr.index 97 (.agg #[.pointer none, .pointer (some ⟨w.heap.size, 0, none⟩)]) (.int .i64 1)).run Try.prog W = .ok (.pointer (some ⟨w.heap.size, 0, none⟩)) W := fun _ => by kernel_rfl
  have HI := Lib.hid (And.intro hz0 ((Below.refl _ w).alloc (Nat.le_refl _) (.cells #[.int .i64 0, .int .i64 0, .map none] 96)))
  clear hz0
  go_enter Try.func13, Try.ntmps13
  go_wp2_with fail
  obtain ⟨W, hW⟩ : ∃ W, W = w.alloc (.cells #[.int .i64 0, .int .i64 0, .map none] 96) := ⟨_, rfl⟩
  have hsz : W.heap.size = w.heap.size + 1 := by rw [hW]; simp
  rw [← hW] at HI ⊢
  clear hW
  have HZ := Lib.hid hsz
  clear hsz
  go_loopw [7, 8, 10] (fun _ _ j wr => ∃ r : Nat, j = .int .i64 r ∧ r ≤ 2 ∧ Hid (Below W.heap.size W wr)) (fun _ _ j _ => 2 - (intOf j).toNat)
  case atStart => exact ⟨0, rfl, by omega, Below.refl _ _⟩
  case round =>
    obtain ⟨r, rfl, hr, HR⟩ := hrel
    have hz : wr.heap[w.heap.size]? = some (.cells #[.int .i64 0, .int .i64 0, .map none] 96) := (HR.out.block _ (by rw [HZ.out]; omega)).trans HI.out.1
    have qz : wr.cell? ⟨w.heap.size, 0, none⟩ = some (.int .i64 0) := by rw [cell_of_row _ _ _ _ _ _ hz]; rfl
    have HB := Lib.hid (HI.out.2.trans (HR.out.mono (by rw [HZ.out]; omega)))
    have KN := Lib.hid (new_either wr m)
    have HNX : Hid (∀ W', Below wr.heap.size wr W' → Below W.heap.size W W') := Lib.hid fun W' hb => HR.out.trans (hb.mono HR.out.size)
    have NA : NoK wr none := .inl rfl
    have NB : NoK wr (some ⟨w.heap.size, 0, none⟩) := .inr ⟨_, rfl, qz⟩
    rcases (by omega : r = 0 ∨ r = 1 ∨ r = 2) with rfl | rfl | rfl
    · have K1 := ins_no NA x
      have K2 := merge_no NA none
      have K3 := counters_no NA
      have K4 := top_no NA
      have K5 := bytes_no NA
      have K6 := total_no NA
      have K7 := copy_no NA
      have KG := Lib.hid (fun W' p V (h : Side wr [(0, Hk p V)] W') => (Exists.elim (side_thing h (List.mem_cons_self ..)) (fun T hT => merge_arg hT (NA.below h.base)) : Calls Try.prog 36 #[.pointer (some ⟨p, 0, none⟩), .pointer none] W' fun e w' => e = .returned (.int .i64 2) ∧ Below W'.heap.size W' w'))
      clear NA NB hz qz HR
      go_wp2_with (first
        | ((with_reducible refine K1.mono ?_); rintro e w' ⟨rfl, rfl⟩)
        | ((with_reducible refine K2.mono ?_); rintro e w' ⟨rfl, rfl⟩)
        | ((with_reducible refine K3.mono ?_); rintro e w' ⟨rfl, rfl⟩)
        | ((with_reducible refine K4.mono ?_); rintro e w' ⟨rfl, rfl⟩)
        | ((with_reducible refine K5.mono ?_); rintro e w' ⟨rfl, rfl⟩)
        | ((with_reducible refine K6.mono ?_); rintro e w' ⟨rfl, rfl⟩)
        | ((with_reducible refine K7.mono ?_); rintro e w' ⟨rfl, rfl⟩))
      refine KN.out.mono ?_
      rintro e w5 hne
      clear KN K1 K2 K3 K4 K5 K6 K7
      rcases hne with ⟨rfl, hb⟩ | ⟨p, V, rfl, S5⟩
      · have HF := Lib.hid (HNX.out _ hb)
        clear hb
        go_wp2_with fail
        go_roundw
        case rel => exact ⟨1, rfl, by omega, HF⟩
        case measure => simp [intOf]
      · have KM := KG.out _ _ _ S5
        have HS5 := Lib.hid S5
        clear S5
        go_wp2_with fail
        refine KM.mono ?_
        rintro e w6 ⟨rfl, hb6⟩
        have HF := Lib.hid (HNX.out _ (HS5.out.below hb6).base)
        clear hb6 KM
        go_wp2_with fail
        go_roundw
        case rel => exact ⟨1, rfl, by omega, HF⟩
        case measure => simp [intOf]
    · have K1 := ins_no NB x
      have K2 := merge_no NB (some ⟨w.heap.size, 0, none⟩)
      have K3 := counters_no NB
      have K4 := top_no NB
      have K5 := bytes_no NB
      have K6 := total_no NB
      have K7 := copy_no NB
      have KG := Lib.hid (fun W' p V (h : Side wr [(0, Hk p V)] W') => (Exists.elim (side_thing h (List.mem_cons_self ..)) (fun T hT => merge_arg hT (NB.below h.base)) : Calls Try.prog 36 #[.pointer (some ⟨p, 0, none⟩), .pointer (some ⟨w.heap.size, 0, none⟩)] W' fun e w' => e = .returned (.int .i64 2) ∧ Below W'.heap.size W' w'))
      clear NA NB hz qz HR
      go_wp2_with (first
        | ((with_reducible refine K1.mono ?_); rintro e w' ⟨rfl, rfl⟩)
        | ((with_reducible refine K2.mono ?_); rintro e w' ⟨rfl, rfl⟩)
        | ((with_reducible refine K3.mono ?_); rintro e w' ⟨rfl, rfl⟩)
        | ((with_reducible refine K4.mono ?_); rintro e w' ⟨rfl, rfl⟩)
        | ((with_reducible refine K5.mono ?_); rintro e w' ⟨rfl, rfl⟩)
        | ((with_reducible refine K6.mono ?_); rintro e w' ⟨rfl, rfl⟩)
        | ((with_reducible refine K7.mono ?_); rintro e w' ⟨rfl, rfl⟩))
      refine KN.out.mono ?_
      rintro e w5 hne
      clear KN K1 K2 K3 K4 K5 K6 K7
      rcases hne with ⟨rfl, hb⟩ | ⟨p, V, rfl, S5⟩
      · have HF := Lib.hid (HNX.out _ hb)
        clear hb
        go_wp2_with fail
        go_roundw
        case rel => exact ⟨2, rfl, by omega, HF⟩
        case measure => simp [intOf]
      · have KM := KG.out _ _ _ S5
        have HS5 := Lib.hid S5
        clear S5
        go_wp2_with fail
        refine KM.mono ?_
        rintro e w6 ⟨rfl, hb6⟩
        have HF := Lib.hid (HNX.out _ (HS5.out.below hb6).base)
        clear hb6 KM
        go_wp2_with fail
        go_roundw
        case rel => exact ⟨2, rfl, by omega, HF⟩
        case measure => simp [intOf]
    · have KL := Lib.hid (lives_any wr)
      clear KN HNX NA NB hz qz HR
      go_wp2_with fail
      refine KL.out.mono ?_
      rintro e w5 ⟨rfl, hb⟩
      have HF := Lib.hid (HB.out.trans (hb.mono HB.out.size))
      clear hb KL
      go_wp2_with fail
      go_ret
      exact ⟨rfl, HF.out⟩
end Go.Proofs.Ythmaabnacednmaa
