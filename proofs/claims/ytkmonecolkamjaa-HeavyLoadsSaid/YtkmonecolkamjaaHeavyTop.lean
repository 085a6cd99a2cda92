/- Contracts of heavy's Top, New and Total: the greatest first, of several alike the lesser id. Conditions: a sketch that was made. -/
import Derived.Test.YtkmonecolkamjaaHeavyIns
set_option maxRecDepth 100000
namespace Go.Proofs.Ytkmonecolkamjaa
open Go.RowKit Go.Maps Go.Sort Go.Shelf

/-- the greater count first, of several alike the lesser id -/
def ltTop (x y : Int × Int) : Bool := decide (y.2 < x.2) || (decide (x.2 = y.2) && decide (x.1 < y.1))
theorem ltTop_iff (x y : Int × Int) : ltTop x y = true ↔ (y.2 < x.2 ∨ (x.2 = y.2 ∧ x.1 < y.1)) := by simp [ltTop]
theorem ltTop_no (x y : Int × Int) : ltTop x y = false ↔ ¬ (y.2 < x.2 ∨ (x.2 = y.2 ∧ x.1 < y.1)) := by
  rw [← ltTop_iff]; simp
theorem swo_top : SWO ltTop where
  irrefl x := by rw [ltTop_no]; omega
  trans x y z h1 h2 := by rw [ltTop_iff] at *; omega
  ntrans x y z h1 h2 := by rw [ltTop_no] at *; omega
def cfTop (x y : Int × Int) : Int := Lib.compareInt y.2 x.2
theorem lt_cfTop (x y : Int × Int) : ltOf cfTop x y = decide (y.2 < x.2) := by
  unfold ltOf cfTop Lib.compareInt
  by_cases h1 : y.2 < x.2
  · simp [h1]
  · by_cases h2 : x.2 < y.2 <;> simp [h1, h2]
set_option maxHeartbeats 1000000 in
theorem closTop (x y : Int × Int) (W : World) : Calls Try.prog 44 #[.agg #[.int .i64 x.1, .int .i64 x.2], .agg #[.int .i64 y.1, .int .i64 y.2]] W fun e w' => e = .returned (.int .i64 (cfTop x y)) ∧ ∃ q os', w' = grow (W.drewN q) os' := by
  have hcon := fun W' => Try.cmp_Compare_int y.2 x.2 W'
  unfold cfTop
  generalize Lib.compareInt y.2 x.2 = r at hcon ⊢
  go_enter Try.func44, Try.ntmps44
  go_wp2_with fail
  refine (hcon _).mono ?_
  rintro e w' ⟨rfl, rfl⟩
  go_wp2_with fail
  go_ret
  exact ⟨rfl, 0, _, by rw [alloc_eq_grow, alloc_eq_grow, grow_grow]; rfl⟩

/-- R is L, the greatest first -/
structure Ranked (L R : CL) : Prop where
  perm : R.Perm L
  order : R.Pairwise fun x y => ltTop y x = false
theorem sort_top {w : World} {g c : Nat} {L : CL} (hR : RowP w g L) (hA : Asc L) (hl : L.length ≤ 1000000) :
    Calls Try.prog 43 #[.slice (some ⟨g, 0, none⟩) L.length c, .func (.func 44) #[] #[]] w fun e w' =>
      e = .returned (.tuple #[]) ∧ Hid (∃ R, Ranked L R ∧ RowP w' g R ∧ w.grownBy w' (some g)) := by
  have eg : ∀ args w, (callFunc 44 args).run Try.prog w = .ok (.enter 44 args) w := enters_of Try.func44 (by kernel_rfl) rfl
  have O : Ord 44 cfTop ltTop (fun x y => x.1 < y.1) w g 0 L.toArray :=
    { row := ⟨encP_len, encP_one, hR.1, hR.2⟩
      eg := eg
      cmp := fun m os dk _ x y => by
        have := closTop x y (sortWorldK encP 2 w g 0 m dk os)
        simpa [encP] using this
      swo := swo_top
      like := fun x y h => by
        rw [lt_cfTop, Bool.eq_iff_iff, ltTop_iff]
        simp; omega
      size := by simp; omega }
  have h := sortStable_any O c (fun i j hij hj => by
    have hj' : j < L.length := by simpa using hj
    rw [getElem!_pos L.toArray i (by simp; omega), getElem!_pos L.toArray j (by simpa using hj')]
    simp only [List.getElem_toArray]
    exact List.pairwise_iff_getElem.1 hA i j (by omega) hj' hij)
  have e0 : L.toArray.size = L.length := by simp
  rw [e0] at h
  refine h.mono ?_
  rintro e w' ⟨rfl, H⟩
  obtain ⟨d', h1, h2, h3⟩ := H.out
  have hd : d'.size = L.length := by rw [h2.1, e0]
  have hperm : d'.toList.Perm L := by
    have := h2.2.2
    have e1 : L.toArray.extract 0 L.length = L.toArray := by rw [← e0]; simp
    have e2 : d'.extract 0 L.length = d' := by rw [← hd]; simp
    rw [e1, e2] at this
    exact this
  have hord : d'.toList.Pairwise fun x y => ltTop y x = false := by
    refine List.pairwise_iff_getElem.2 fun i j hi hj hij => ?_
    have := h3 i j (Nat.zero_le _) hij (by simp at hj; omega)
    rw [getElem!_pos d' i (by simpa using hi), getElem!_pos d' j (by simpa using hj)] at this
    simpa using this
  have hS : SWK encP 2 w g 0 d'.toList.toArray w' := by simpa using h1
  obtain ⟨r1, r2⟩ := row_of_swk hR hS (by simpa using hd)
  exact ⟨rfl, d'.toList, ⟨hperm, hord⟩, r1, r2⟩

theorem ret_slice {a : Option Addr} {x y c : Nat} (h : x = y) : Ending.returned (.slice a x c) = Ending.returned (.slice a y c) := by rw [h]
/-- the first n of the greatest, in memory of the call's own -/
def TopAt (w : World) (L : CL) (n : Nat) (e : Ending) (w' : World) : Prop := ∃ g c R, e = .returned (.slice (some ⟨g, 0, none⟩) (min n L.length) c) ∧ w.heap.size ≤ g ∧ Ranked L R ∧ RowP w' g R ∧ Below w.heap.size w w'

set_option maxHeartbeats 2000000 in
theorem top_at {w : World} {p m b : Nat} {L : CL} (c0 : w.cell? ⟨p, 0, none⟩ = some (.int .i64 m)) (h1 : 1 ≤ m) (c2 : w.cell? ⟨p, 2, none⟩ = some (.map (some b))) (hM : MapAt w b L) (hl : L.length ≤ 100000) (n : Nat) (hn : n ≤ 1000000) :
    Calls Try.prog 23 #[.pointer (some ⟨p, 0, none⟩), .int .i64 n] w (TopAt w L n) := by
  have KC := counters_at c0 h1 c2 hM hl
  have HA := Lib.hid hM.asc
  clear c0 h1 c2 hM
  go_enter Try.func23, Try.ntmps23
  go_wp2_with fail
  refine KC.mono ?_
  rintro e w1 ⟨g, c, rfl, hg, hc, hR, hB⟩
  have KS := sort_top (c := c) hR HA.out (by omega)
  have HB := Lib.hid (And.intro hB (And.intro hg hc))
  clear KC hR hB hg
  go_wp2_with fail
  refine KS.mono ?_
  rintro e w2 ⟨rfl, H⟩
  clear KS
  have hmin : min n L.length ≤ c := by omega
  go_wp2_with fail
  go_ret
  obtain ⟨R, r1, r2, r3⟩ := H.out
  exact ⟨g, c, R, ret_slice (by omega), HB.out.2.1, r1, r2, HB.out.1.grown r3 HB.out.1.size (fun j hj => by cases hj; exact HB.out.2.1)⟩

theorem total_at {w : World} {p m n : Nat} (c0 : w.cell? ⟨p, 0, none⟩ = some (.int .i64 m)) (h1 : 1 ≤ m) (c1 : w.cell? ⟨p, 1, none⟩ = some (.int .i64 n)) :
    Calls Try.prog 21 #[.pointer (some ⟨p, 0, none⟩)] w fun e w' => e = .returned (.int .i64 n) ∧ w = w' := by
  have KM := made_yes c0 h1
  clear c0 h1
  go_enter Try.func21, Try.ntmps21
  go_wp2_with fail
  refine KM.mono ?_
  rintro e w1 ⟨rfl, rfl⟩
  clear KM
  go_wp2_with fail
  go_ret
  exact ⟨rfl, rfl⟩

/-- an empty sketch -/
def HV.none_ (m : Nat) : HV := ⟨m, 0, []⟩
theorem good_none {m : Nat} (h1 : 1 ≤ m) (h2 : m ≤ 64) : (HV.none_ m).Good := ⟨h1, h2, Nat.zero_le _, Nat.zero_le _, (fun p hp => by cases hp), Int.le_refl _⟩
set_option maxHeartbeats 1000000 in
theorem new_yes {w : World} {m : Nat} (h1 : 1 ≤ m) (h2 : m ≤ 64) (T : Tags) (i : Nat) :
    Calls Try.prog 9 #[.int .i64 m] w fun e w' => ∃ p, e = .returned (.pointer (some ⟨p, 0, none⟩)) ∧ Below w.heap.size w w' ∧ ∃ T', Next T w T' ∧ Hk p (HV.none_ m) T' i w' := by
  have z1 : ¬ (m : Int) < 1 := by omega
  have z2 : ¬ (64 : Int) < (m : Int) := by omega
  have hmm := @run_makeMap Try.prog
  have FIN : Hid (∃ p, (Ending.returned (.pointer (some ⟨w.heap.size + 1, 0, none⟩)) : Ending) = .returned (.pointer (some ⟨p, 0, none⟩)) ∧ Below w.heap.size w ((w.alloc (.map #[] 0)).alloc (.cells #[.int .i64 m, .int .i64 0, .map (some w.heap.size)] 57)) ∧
      ∃ T', Next T w T' ∧ Hk p (HV.none_ m) T' i ((w.alloc (.map #[] 0)).alloc (.cells #[.int .i64 m, .int .i64 0, .map (some w.heap.size)] 57))) := by
    refine ⟨_, rfl, ((Below.refl _ w).alloc (Nat.le_refl _) _).alloc (by simp) _, T.one w.heap.size (some i), T.one_next w _, w.heap.size, ?_, good_none h1 h2⟩
    refine ⟨?_, by unfold Tags.one; rw [if_neg (by omega)], ?_, by unfold Tags.one; rw [if_neg (by omega)]⟩
    · have := heap_alloc_new (w.alloc (.map #[] 0)) (.cells #[.int .i64 m, .int .i64 0, .map (some w.heap.size)] 57)
      rw [World.size_alloc] at this
      exact this
    · exact (MapAt.made w).of_block (heap_alloc_old _ _ (by simp))
  clear h1 h2
  go_enter Try.func9, Try.ntmps9
  go_wp2_with fail
  go_ret
  exact FIN.out
theorem new_no {w : World} {m : Int} (h : m < 1 ∨ 64 < m) :
    Calls Try.prog 9 #[.int .i64 m] w fun e w' => e = .returned (.pointer none) ∧ w = w' := by
  rcases h with h | h
  · go_enter Try.func9, Try.ntmps9
    go_wp2_with fail
    go_ret
    exact ⟨rfl, rfl⟩
  · have h' : ¬ m < 1 := by omega
    go_enter Try.func9, Try.ntmps9
    go_wp2_with fail
    go_ret
    exact ⟨rfl, rfl⟩
end Go.Proofs.Ytkmonecolkamjaa
