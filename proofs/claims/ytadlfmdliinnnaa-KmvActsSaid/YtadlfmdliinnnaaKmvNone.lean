/- The walk of KmvNone: a sketch that no call made does nothing. Conditions: none. -/
import Derived.Test.YtadlfmdliinnnaaKmvSide
set_option maxRecDepth 100000
namespace Go.Proofs.Ytadlfmdliinnnaa
open Go.RowKit Go.Maps Go.Sort

/-- New, whatever the settings: nil, or a sketch -/
def NewAny (w : World) (t : Int) (S : List (Nat × Nat)) (k m : Int) (e : Ending) (w' : World) : Prop :=
  (goodB t S k m = false ∧ e = .returned (.pointer none) ∧ Below w.heap.size w w') ∨
  (goodB t S k m = true ∧ ∃ p : Nat, ∃ tn : Nat, t = tn ∧ GoodS tn S ∧ e = .returned (.pointer (some ⟨p, 0, none⟩)) ∧ Side w [(0, Sk p (SkV.empty tn S))] w')
theorem new_either {w : World} {sa : Option Addr} {n sc : Nat} {S : List (Nat × Nat)} (h : SetAt w sa n sc S) (t k m : Int) :
    Calls Try.prog 9 #[setV t sa n sc k m] w (NewAny w t S k m) := by
  cases hg : goodB t S k m with
  | false => exact (new_no h t k m hg).mono fun e w' ⟨a, b⟩ => Or.inl ⟨hg, a, b⟩
  | true =>
    obtain ⟨tn, rfl, hS⟩ := goodB_set hg
    exact (side_new (Side.nil w) 0 h tn k m hg).mono fun e w' ⟨p, a, b⟩ => Or.inr ⟨hg, p, tn, rfl, hS, a, b.out⟩

set_option maxHeartbeats 6400000 in
theorem none_walk {w : World} {sa : Option Addr} {n sc : Nat} {S : List (Nat × Nat)} (h : SetAt w sa n sc S) (t k m : Int) (x : Nat) :
    Calls Try.prog 6 #[setV t sa n sc k m, .int .u64 (x : Int)] w fun e w' => e = .returned (.bool true) ∧ Below w.heap.size w w' := by
  have hb := below_two w (.cells #[.int .i64 t, .slice sa n sc, .int .i64 k, .int .i64 m] 24) (.cells #[.int .i64 0, .slice none 0 0, .slice none 0 0] 57)
  have h1 := heap_alloc_new w (.cells #[.int .i64 t, .slice sa n sc, .int .i64 k, .int .i64 m] 24)
  have b1 := (Below.refl _ (w.alloc (.cells #[.int .i64 t, .slice sa n sc, .int .i64 k, .int .i64 m] 24))).alloc (Nat.le_refl _) (.cells #[.int .i64 0, .slice none 0 0, .slice none 0 0] 57)
  have h2 := heap_alloc_new (w.alloc (.cells #[.int .i64 t, .slice sa n sc, .int .i64 k, .int .i64 m] 24)) (.cells #[.int .i64 0, .slice none 0 0, .slice none 0 0] 57)
  have h1 := (b1.block _ (by simp)).trans h1
  rw [World.size_alloc] at h2
  have hsz : ((w.alloc (.cells #[.int .i64 t, .slice sa n sc, .int .i64 k, .int .i64 m] 24)).alloc (.cells #[.int .i64 0, .slice none 0 0, .slice none 0 0] 57)).heap.size = w.heap.size + 1 + 1 := by simp
  have HS := Lib.hid h
  have HI := Lib.hid (And.intro h1 (And.intro h2 hb))
  clear h h1 h2 hb b1
  have i0 : ∀ W, (Instr.index 58 (.agg #[.pointer none, .pointer (some ⟨w.heap.size + 1, 0, none⟩)]) (.int .i64 0)).run Try.prog W = .ok (.pointer none) W := fun _ => by kernel_rfl
  have i1 : ∀ W, (Instr.index 58 (.agg #[.pointer none, .pointer (some ⟨w.heap.size + 1, 0, none⟩)]) (.int .i64 1)).run Try.prog W = .ok (.pointer (some ⟨w.heap.size + 1, 0, none⟩)) W := fun _ => by kernel_rfl
  unfold setV
  go_enter Try.func6, Try.ntmps6
  go_wp2_with fail
  obtain ⟨W, hW⟩ : ∃ W, W = ((w.alloc (.cells #[.int .i64 t, .slice sa n sc, .int .i64 k, .int .i64 m] 24)).alloc (.cells #[.int .i64 0, .slice none 0 0, .slice none 0 0] 57)) := ⟨_, rfl⟩
  rw [← hW] at HI hsz ⊢
  clear hW
  have HZ := Lib.hid hsz
  clear hsz
  go_loopw [7, 8, 10] (fun _ _ j wr => ∃ r : Nat, j = .int .i64 r ∧ r ≤ 2 ∧ Hid (Below W.heap.size W wr)) (fun _ _ j _ => 2 - (intOf j).toNat)
  case atStart => exact ⟨0, rfl, by omega, Below.refl _ _⟩
  case round =>
    obtain ⟨r, rfl, hr, HR⟩ := hrel
    have hbx : wr.heap[w.heap.size]? = some (.cells #[.int .i64 t, .slice sa n sc, .int .i64 k, .int .i64 m] 24) := (HR.out.block _ (by rw [HZ.out]; omega)).trans HI.out.1
    have q0 : wr.cell? ⟨w.heap.size, 0, none⟩ = some (.int .i64 t) := by rw [cell_of_row _ _ _ _ _ _ hbx]; rfl
    have q1 : wr.cell? ⟨w.heap.size, 1, none⟩ = some (.slice sa n sc) := by rw [cell_of_row _ _ _ _ _ _ hbx]; rfl
    have q2 : wr.cell? ⟨w.heap.size, 2, none⟩ = some (.int .i64 k) := by rw [cell_of_row _ _ _ _ _ _ hbx]; rfl
    have q3 : wr.cell? ⟨w.heap.size, 3, none⟩ = some (.int .i64 m) := by rw [cell_of_row _ _ _ _ _ _ hbx]; rfl
    have hz : wr.heap[w.heap.size + 1]? = some (.cells #[.int .i64 0, .slice none 0 0, .slice none 0 0] 57) := (HR.out.block _ (by rw [HZ.out]; omega)).trans HI.out.2.1
    have qz : wr.cell? ⟨w.heap.size + 1, 0, none⟩ = some (.int .i64 0) := by rw [cell_of_row _ _ _ _ _ _ hz]; rfl
    have HB := Lib.hid (HI.out.2.2.trans (HR.out.mono (by rw [HZ.out]; omega)))
    have KN := Lib.hid (new_either (HS.out.below HB.out) t k m)
    unfold setV at KN
    have HNX : Hid (∀ W', Below wr.heap.size wr W' → Below W.heap.size W W') := Lib.hid fun W' hb => HR.out.trans (hb.mono HR.out.size)
    have NA : NoK wr none := .inl rfl
    have NB : NoK wr (some ⟨w.heap.size + 1, 0, none⟩) := .inr ⟨_, rfl, qz⟩
    rcases (by omega : r = 0 ∨ r = 1 ∨ r = 2) with rfl | rfl | rfl
    · have K1 := ins_no NA x
      have K2 := merge_no NA none
      have K3 := copies_no NA
      have K4 := answers_no NA
      have K5 := bytes_no NA
      have K6 := estimate_no NA
      have K7 := copy_no NA
      have KG := Lib.hid (fun W' p V (h : Side wr [(0, Sk p V)] W') => side_merge_arg h (List.mem_cons_self ..) (NA.below h.base))
      clear NA NB hbx hz qz HR
      go_wp2_with (first
        | ((with_reducible refine K1.mono ?_); rintro e w' ⟨rfl, rfl⟩)
        | ((with_reducible refine K2.mono ?_); rintro e w' ⟨rfl, rfl⟩)
        | ((with_reducible refine K3.mono ?_); rintro e w' ⟨rfl, rfl⟩)
        | ((with_reducible refine K4.mono ?_); rintro e w' ⟨rfl, rfl⟩)
        | ((with_reducible refine K5.mono ?_); rintro e w' ⟨rfl, rfl⟩)
        | ((with_reducible refine K6.mono ?_); rintro e w' ⟨rfl, rfl⟩)
        | ((with_reducible refine K7.mono ?_); rintro e w' ⟨rfl, rfl⟩))
      refine KN.out.mono ?_
      rintro e w5 hne
      clear KN K1 K2 K3 K4 K5 K6 K7
      rcases hne with ⟨_, rfl, hb⟩ | ⟨_, p, tn, ht, hS, rfl, S5⟩
      · have HF := Lib.hid (HNX.out _ hb)
        clear hb
        go_wp2_with fail
        go_roundw
        case rel => exact ⟨1, rfl, by omega, HF⟩
        case measure => simp [intOf]
      · have KM := KG.out _ _ _ S5
        have HS5 := Lib.hid S5
        clear ht hS S5
        go_wp2_with fail
        refine KM.mono ?_
        rintro e w6 ⟨rfl, hb6⟩
        have HF := Lib.hid (HNX.out _ (HS5.out.below hb6).base)
        clear hb6 KM
        go_wp2_with fail
        go_roundw
        case rel => exact ⟨1, rfl, by omega, HF⟩
        case measure => simp [intOf]
    · have K1 := ins_no NB x
      have K2 := merge_no NB (some ⟨w.heap.size + 1, 0, none⟩)
      have K3 := copies_no NB
      have K4 := answers_no NB
      have K5 := bytes_no NB
      have K6 := estimate_no NB
      have K7 := copy_no NB
      have KG := Lib.hid (fun W' p V (h : Side wr [(0, Sk p V)] W') => side_merge_arg h (List.mem_cons_self ..) (NB.below h.base))
      clear NA NB hbx hz qz HR
      go_wp2_with (first
        | ((with_reducible refine K1.mono ?_); rintro e w' ⟨rfl, rfl⟩)
        | ((with_reducible refine K2.mono ?_); rintro e w' ⟨rfl, rfl⟩)
        | ((with_reducible refine K3.mono ?_); rintro e w' ⟨rfl, rfl⟩)
        | ((with_reducible refine K4.mono ?_); rintro e w' ⟨rfl, rfl⟩)
        | ((with_reducible refine K5.mono ?_); rintro e w' ⟨rfl, rfl⟩)
        | ((with_reducible refine K6.mono ?_); rintro e w' ⟨rfl, rfl⟩)
        | ((with_reducible refine K7.mono ?_); rintro e w' ⟨rfl, rfl⟩))
      refine KN.out.mono ?_
      rintro e w5 hne
      clear KN K1 K2 K3 K4 K5 K6 K7
      rcases hne with ⟨_, rfl, hb⟩ | ⟨_, p, tn, ht, hS, rfl, S5⟩
      · have HF := Lib.hid (HNX.out _ hb)
        clear hb
        go_wp2_with fail
        go_roundw
        case rel => exact ⟨2, rfl, by omega, HF⟩
        case measure => simp [intOf]
      · have KM := KG.out _ _ _ S5
        have HS5 := Lib.hid S5
        clear ht hS S5
        go_wp2_with fail
        refine KM.mono ?_
        rintro e w6 ⟨rfl, hb6⟩
        have HF := Lib.hid (HNX.out _ (HS5.out.below hb6).base)
        clear hb6 KM
        go_wp2_with fail
        go_roundw
        case rel => exact ⟨2, rfl, by omega, HF⟩
        case measure => simp [intOf]
    · have KL := Lib.hid (lives_any wr)
      clear KN HNX NA NB hbx hz qz q0 q1 q2 q3 HR
      go_wp2_with fail
      refine KL.out.mono ?_
      rintro e w5 ⟨rfl, hb⟩
      have HF := Lib.hid (HB.out.trans (hb.mono HB.out.size))
      clear hb KL
      go_wp2_with fail
      go_ret
      exact ⟨rfl, HF.out⟩
end Go.Proofs.Ytadlfmdliinnnaa
