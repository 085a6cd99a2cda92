/- The walk of DictActs. Conditions: none. -/
import Derived.Test.YtdbaeghhlhkobaaDictAlike
import Derived.Test.YtdbaeghhlhkobaaDictCopies
set_option maxRecDepth 100000
namespace Go.Proofs.Ytdbaeghhlhkobaa
open Go.RowKit Go.Maps Go.Sort Go.Lib Go.Shelf

section
variable {w0 w : World} {E : List (Nat × Thing)} {i : Nat} {q : Nat} {K : Int} {L : List VV}
theorem side_rnew (h : Side w0 E w) (i : Nat) {K : Int} (h1 : 1 ≤ K) (h4 : K ≤ 4) :
    Calls Try.prog 9 #[.int .i64 K] w fun e w' => ∃ q, e = .returned (.pointer (some ⟨q, 0, none⟩)) ∧ Hid (Side w0 ((i, Rt q K []) :: E) w') :=
  h.make i (fun q => Rt q K []) (fun q => Rt.framed q K []) (R := fun q e => e = .returned (.pointer (some ⟨q, 0, none⟩))) fun T _ => rnew_any h1 h4 T i w
theorem side_radd (h : Side w0 ((i, Rt q K L) :: E) w) (hi : ∀ e ∈ E, e.1 ≠ i) {x : VV} (hx : x.ty) :
    Calls Try.prog 16 #[.pointer (some ⟨q, 0, none⟩), x.val] w fun e w' => e = .returned (.tuple #[.int .i64 (addI K L x), .int .i64 (addE K L x)]) ∧ Hid (Side w0 ((i, Rt q K (addL K L x)) :: E) w') :=
  (h.step hi (Rt.framed q K (addL K L x)) (Pr := fun e => e = .returned (.tuple #[.int .i64 (addI K L x), .int .i64 (addE K L x)])) fun _ _ hA => (radd_any (hA _ (List.mem_cons_self ..)) hx).mono fun _ _ ⟨a, b⟩ => ⟨a, b.out⟩).mono fun _ _ ⟨a, b⟩ => ⟨a, Lib.hid b⟩
theorem side_rcopy (h : Side w0 E w) (hx : (i, Rt q K L) ∈ E) (j : Nat) :
    Calls Try.prog 12 #[.pointer (some ⟨q, 0, none⟩)] w fun e w' => ∃ r, e = .returned (.pointer (some ⟨r, 0, none⟩)) ∧ Hid (Side w0 ((j, Rt r K L) :: E) w') :=
  h.make j (fun r => Rt r K L) (fun r => Rt.framed r K L) (R := fun r e => e = .returned (.pointer (some ⟨r, 0, none⟩))) fun _ hA => rcopy_any (hA _ hx)
theorem side_rk (h : Side w0 E w) (hx : (i, Rt q K L) ∈ E) : ∃ T v, RkAt T i w q K v L := by
  obtain ⟨T, v, h⟩ := side_thing h hx
  exact ⟨T, v, h⟩
theorem side_rvalue (h : Side w0 E w) (hx : (i, Rt q K L) ∈ E) (id : Int) : Calls Try.prog 18 #[.pointer (some ⟨q, 0, none⟩), .int .i64 id] w fun e w' => e = .returned (.tuple #[((atV L id).getD VV.none_).val, .bool (atV L id).isSome]) ∧ Below w.heap.size w w' := by
  obtain ⟨T, v, h⟩ := side_rk h hx
  exact rvalue_any h id
theorem side_rfind (h : Side w0 E w) (hx : (i, Rt q K L) ∈ E) (x : VV) : Calls Try.prog 14 #[.pointer (some ⟨q, 0, none⟩), x.val] w fun e w' => e = .returned (.tuple #[.int .i64 (((posV L x).getD 0 : Nat) : Int), .bool (posV L x).isSome]) ∧ Below w.heap.size w w' := by
  obtain ⟨T, v, h⟩ := side_rk h hx
  exact rfind_any h x
theorem side_rroom (h : Side w0 E w) (hx : (i, Rt q K L) ∈ E) {v : Value} {xs : List VV} (hv : HoldsV w v xs) (ht : TyAll xs) (hl : xs.length ≤ 1000000) :
    Calls Try.prog 21 #[.pointer (some ⟨q, 0, none⟩), v] w fun e w' => e = .returned (.bool (roomV K L xs)) ∧ Below w.heap.size w w' := by
  obtain ⟨T, h⟩ := side_thing h hx
  exact rroom_any h hv ht hl
theorem side_alike {j r : Nat} (h : Side w0 E w) (hx : (i, Dt q K L) ∈ E) (hy : (j, Rt r K L) ∈ E) :
    Calls Try.prog 19 #[.pointer (some ⟨q, 0, none⟩), .pointer (some ⟨r, 0, none⟩)] w fun e w' => e = .returned (.bool true) ∧ Below w.heap.size w w' := by
  obtain ⟨T, h⟩ := h
  exact alike_any (h.at_ _ hx).2 (h.at_ _ hy).2
end
/-- the copies that were laid by, or none yet -/
def OldE (K : Int) (o u : Value) (E : List (Nat × Thing)) : Prop :=
  (o = .pointer none ∧ u = .pointer none ∧ E = []) ∨ ∃ q p L, o = .pointer (some ⟨q, 0, none⟩) ∧ u = .pointer (some ⟨p, 0, none⟩) ∧ E = [(3, Dt q K L), (4, Rt p K L)]
def PairS (w : World) (q p : Nat) (K : Int) (o u : Value) (L : List VV) (W : World) : Prop := ∃ E, OldE K o u E ∧ Side w ((1, Dt q K L) :: (2, Rt p K L) :: E) W
theorem PairS.below {w : World} {q p : Nat} {K : Int} {o u : Value} {L : List VV} {W W' : World} (h : PairS w q p K o u L W) (hb : Below W.heap.size W W') : PairS w q p K o u L W' := by
  obtain ⟨E, h1, h2⟩ := h
  exact ⟨E, h1, h2.below hb⟩
/-- .. with a box beside them -/
def PairB (w : World) (q p : Nat) (K : Int) (o u : Value) (L M : List VV) (c : Nat) (x : VV) (W : World) : Prop := ∃ E, OldE K o u E ∧ Side w ((1, Dt q K L) :: (2, Rt p K M) :: (5, Box c (boxV x)) :: E) W
theorem OldE.tags {K : Int} {o u : Value} {E : List (Nat × Thing)} (h : OldE K o u E) : ∀ e ∈ E, e.1 = 3 ∨ e.1 = 4 := fun e he => by
  rcases h with ⟨_, _, rfl⟩ | ⟨_, _, _, _, _, rfl⟩
  · cases he
  · simp at he
    rcases he with rfl | rfl
    · exact .inl rfl
    · exact .inr rfl
section
variable {w W : World} {q p : Nat} {K : Int} {o u : Value} {L M : List VV} {c : Nat} {x : VV}
theorem PairB.below {W' : World} (h : PairB w q p K o u L M c x W) (hb : Below W.heap.size W W') : PairB w q p K o u L M c x W' := by
  obtain ⟨E, h1, h2⟩ := h
  exact ⟨E, h1, h2.below hb⟩
theorem PairB.box (h : PairB w q p K o u L M c x W) : W.cell? ⟨c, 0, none⟩ = some (.int .i64 x.k) ∧ W.cell? ⟨c, 1, none⟩ = some (.int .i64 x.n) ∧ W.cell? ⟨c, 2, none⟩ = some (.string x.s) := by
  obtain ⟨E, _, h⟩ := h
  exact side_box h (i := 5) mem2
theorem PairS.boxed (h : PairS w q p K o u L W) (x : VV) : PairB w q p K o u L L W.heap.size x (W.alloc (boxV x)) := by
  obtain ⟨E, h1, h2⟩ := h
  refine ⟨E, h1, (h2.alloc 5 (boxV x)).sub fun e he => ?_⟩
  simp only [List.mem_cons] at he ⊢
  rcases he with e | e | e | e
  · exact .inr (.inl e)
  · exact .inr (.inr (.inl e))
  · exact .inl e
  · exact .inr (.inr (.inr e))
theorem PairB.bare (h : PairB w q p K o u L L c x W) : PairS w q p K o u L W := by
  obtain ⟨E, h1, h2⟩ := h
  refine ⟨E, h1, h2.sub fun e he => ?_⟩
  simp only [List.mem_cons] at he ⊢
  rcases he with e | e | e
  · exact .inl e
  · exact .inr (.inl e)
  · exact .inr (.inr (.inr e))
theorem PairB.find (h : PairB w q p K o u L M c x W) (hx : x.ty) : Calls Try.prog 13 #[.pointer (some ⟨q, 0, none⟩), x.val] W fun e w' => e = .returned (.tuple #[.int .i64 (((posV L x).getD 0 : Nat) : Int), .bool (posV L x).isSome]) ∧ Below W.heap.size W w' := by
  obtain ⟨E, _, h⟩ := h
  exact side_dfind h mem0 hx
theorem PairB.rfind (h : PairB w q p K o u L M c x W) : Calls Try.prog 14 #[.pointer (some ⟨p, 0, none⟩), x.val] W fun e w' => e = .returned (.tuple #[.int .i64 (((posV M x).getD 0 : Nat) : Int), .bool (posV M x).isSome]) ∧ Below W.heap.size W w' := by
  obtain ⟨E, _, h⟩ := h
  exact side_rfind h mem1 x
theorem PairB.add (h : PairB w q p K o u L M c x W) (hx : x.ty) : Calls Try.prog 15 #[.pointer (some ⟨q, 0, none⟩), x.val] W fun e w' => e = .returned (.tuple #[.int .i64 (addI K L x), .int .i64 (addE K L x)]) ∧ Hid (PairB w q p K o u (addL K L x) M c x w') := by
  obtain ⟨E, h1, h2⟩ := h
  refine (side_dadd h2 (fun e he => ?_) hx).mono fun e w' ⟨a, b⟩ => ⟨a, Lib.hid ⟨E, h1, b.out⟩⟩
  simp only [List.mem_cons] at he
  rcases he with rfl | rfl | he
  · exact (by decide : (2 : Nat) ≠ 1)
  · exact (by decide : (5 : Nat) ≠ 1)
  · rcases h1.tags e he with g | g <;> rw [g] <;> decide
theorem PairB.radd (h : PairB w q p K o u L M c x W) (hx : x.ty) : Calls Try.prog 16 #[.pointer (some ⟨p, 0, none⟩), x.val] W fun e w' => e = .returned (.tuple #[.int .i64 (addI K M x), .int .i64 (addE K M x)]) ∧ Hid (PairB w q p K o u L (addL K M x) c x w') := by
  obtain ⟨E, h1, h2⟩ := h
  have h3 : Side w ((2, Rt p K M) :: (1, Dt q K L) :: (5, Box c (boxV x)) :: E) W := h2.sub fun e he => by
    simp only [List.mem_cons] at he ⊢
    rcases he with e | e | e
    · exact .inr (.inl e)
    · exact .inl e
    · exact .inr (.inr e)
  refine (side_radd h3 (fun e he => ?_) hx).mono fun e w' ⟨a, b⟩ => ⟨a, Lib.hid ⟨E, h1, b.out.sub fun e he => ?_⟩⟩
  · simp only [List.mem_cons] at he
    rcases he with rfl | rfl | he
    · exact (by decide : (1 : Nat) ≠ 2)
    · exact (by decide : (5 : Nat) ≠ 2)
    · rcases h1.tags e he with g | g <;> rw [g] <;> decide
  · simp only [List.mem_cons] at he ⊢
    rcases he with e | e | e
    · exact .inr (.inl e)
    · exact .inl e
    · exact .inr (.inr e)
theorem PairB.copy (h : PairB w q p K o u L L c x W) : Calls Try.prog 11 #[.pointer (some ⟨q, 0, none⟩)] W fun e w' => ∃ r, e = .returned (.pointer (some ⟨r, 0, none⟩)) ∧ Hid (Side w [(3, Dt r K L), (1, Dt q K L), (2, Rt p K L), (5, Box c (boxV x))] w') := by
  obtain ⟨E, _, h⟩ := h
  refine (side_dcopy h mem0 3).mono fun e w' ⟨r, a, b⟩ => ⟨r, a, Lib.hid (b.out.sub fun e he => ?_)⟩
  simp only [List.mem_cons, List.not_mem_nil, or_false] at he ⊢
  rcases he with e | e | e | e
  · exact .inl e
  · exact .inr (.inl e)
  · exact .inr (.inr (.inl e))
  · exact .inr (.inr (.inr (.inl e)))
end
set_option maxHeartbeats 12800000 in
theorem acts_walk {w : World} (K : Int) {v : Value} {xs : List VV} (id : Int) (hv : HoldsV w v xs) (hx : TyAll xs) :
    Calls Try.prog 3 #[.int .i64 K, v, .int .i64 id] w fun e w' => e = .returned (.bool true) ∧ Below w.heap.size w w' := by
  have KL := lives_any
  obtain ⟨a, c, rfl, hc⟩ := hv.form
  by_cases hK : K < 1 ∨ 4 < K
  · have KN := dnew_no hK
    have KR := rnew_no hK
    generalize xs.length = N at *
    clear hv hx hK hc
    go_enter Try.func3, Try.ntmps3
    go_wp2_with fail
    refine (KN _).mono ?_
    rintro e w' ⟨rfl, rfl⟩
    go_wp2_with fail
    refine (KR _).mono ?_
    rintro e w' ⟨rfl, rfl⟩
    go_wp2_with fail
    refine (KL _).mono ?_
    rintro e w' ⟨rfl, hb⟩
    go_wp2_with fail
    go_ret
    exact ⟨rfl, hb⟩
  have KN := side_dnew (Side.nil w) 1 (K := K) (by omega) (by omega)
  have KR := Lib.hid (fun (q : Nat) (W : World) (h : Side w [(1, Dt q K [])] W) => side_rnew h 2 (K := K) (by omega) (by omega))
  by_cases hl : 600 < xs.length
  · have t0 : decide ((600 : Int) < (xs.length : Int)) = true := decide_eq_true (by omega)
    generalize xs.length = N at *
    clear hv hx hK hc hl
    go_enter Try.func3, Try.ntmps3
    go_wp2_with fail
    refine KN.mono ?_
    rintro e w1 ⟨q, rfl, h1⟩
    have KR1 := KR.out q _ h1.out
    clear KN KR h1
    go_wp2_with fail
    refine KR1.mono ?_
    rintro e w2 ⟨p, rfl, h2⟩
    clear KR1
    go_wp2_with fail
    refine (KL _).mono ?_
    rintro e w' ⟨rfl, hb⟩
    have FB := Lib.hid (h2.out.base.trans (hb.mono h2.out.base.size))
    clear h2 hb
    go_wp2_with fail
    go_ret
    exact ⟨rfl, FB.out⟩
  have t0 : decide ((600 : Int) < (xs.length : Int)) = false := decide_eq_false (by omega)
  obtain ⟨N, hN⟩ : ∃ N, xs.length = N := ⟨_, rfl⟩
  have HV := Lib.hid hv
  have HX := Lib.hid hx
  rw [hN] at t0 hl HV ⊢
  have HL := Lib.hid hl
  have HN := Lib.hid hN
  obtain ⟨H, hH⟩ : ∃ H, N / 2 = H := ⟨_, rfl⟩
  have hdv : (N : Int).tdiv 2 = (H : Int) := by rw [Int.tdiv_eq_ediv_of_nonneg (by omega)]; omega
  have hdv2 : (N : Int) / 2 = (H : Int) := by omega
  have hwH : IntKind.i64.wrap (H : Int) = (H : Int) := by rw [IntKind.wrap_i64]; omega
  clear hv hx hK hc hl hN hH
  go_enter Try.func3, Try.ntmps3
  go_wp2_with fail
  refine KN.mono ?_
  rintro e w1 ⟨q, rfl, h1⟩
  have KR1 := KR.out q _ h1.out
  clear KN KR h1
  go_wp2_with fail
  refine KR1.mono ?_
  rintro e w2 ⟨p, rfl, h2⟩
  have HS0 : Hid (∃ L, PairS w q p K (.pointer none) (.pointer none) L w2) := Lib.hid ⟨[], [], .inl ⟨rfl, rfl, rfl⟩, h2.out.sub (by simp)⟩
  clear KR1 h2
  go_wp2_with fail
  clear t0
  go_loopw [9, 10, 44] (fun o u s wr => ∃ m : Nat, s = .int .i64 m ∧ m ≤ N ∧ Hid (∃ L, PairS w q p K o u L wr)) (fun _ _ s _ => N - (RowKit.intOf s).toNat)
  case atStart => exact ⟨0, rfl, Nat.zero_le _, HS0⟩
  case round =>
    obtain ⟨m, rfl, hm, HS⟩ := hrel
    by_cases hlt : m < N
    · obtain ⟨x, hx⟩ : ∃ x, xs[m]? = some x := ⟨xs[m]'(HN.out ▸ hlt), List.getElem?_eq_getElem _⟩
      obtain ⟨L, hM⟩ := HS.out
      have HT := Lib.hid (HX.out x (List.mem_of_getElem? hx))
      have hbase : Below w.heap.size w wr := by obtain ⟨E, _, h⟩ := hM; exact h.base
      obtain ⟨ad, rfl, d0, d1, d2⟩ := (HV.out.below hbase).at_ hx
      have HB := Lib.hid (hM.boxed x)
      have hw64 := wi_step hlt (by have := HL.out; omega)
      have b0 : (0 : Int) ≤ (m : Int) := Int.natCast_nonneg m
      have b1 : (m : Int) < (N : Int) := Int.ofNat_lt.2 hlt
      obtain ⟨k, y, s⟩ := x
      simp only [boxV] at d0 d1 d2 HB
      clear hx hM HS HS0 hbase
      by_cases hmH : m = H
      · subst hmH
        have q0 : ((m : Int) == (m : Int)) = true := by simp
        have KC1 := HB.out.copy
        have KC2 := Lib.hid (fun (r : Nat) (W : World) (h : Side w [(3, Dt r K L), (1, Dt q K L), (2, Rt p K L), (5, Box wr.heap.size (boxV ⟨k, y, s⟩))] W) => side_rcopy h mem2 4)
        clear HB
        go_wp2_with fail
        refine KC1.mono ?_
        rintro e w3 ⟨q2, rfl, h3⟩
        have KC3 := KC2.out q2 w3 h3.out
        clear KC1 KC2 h3
        go_wp2_with fail
        refine KC3.mono ?_
        rintro e w3 ⟨p2, rfl, h3⟩
        have HP : Hid (PairB w q p K (.pointer (some ⟨q2, 0, none⟩)) (.pointer (some ⟨p2, 0, none⟩)) L L wr.heap.size ⟨k, y, s⟩ w3) := Lib.hid ⟨_, .inr ⟨q2, p2, L, rfl, rfl, rfl⟩, h3.out.sub fun e he => by
          simp only [List.mem_cons, List.not_mem_nil, or_false] at he ⊢
          rcases he with e | e | e | e | e
          · exact .inr (.inr (.inl e))
          · exact .inr (.inr (.inr (.inl e)))
          · exact .inr (.inr (.inr (.inr e)))
          · exact .inr (.inl e)
          · exact .inl e⟩
        clear KC3 h3 hdv hdv2 hwH
        have KF := (HP.out).find HT.out
        have HC := Lib.hid HP.out
        have f := HP.out.box
        obtain ⟨f0, f1, f2⟩ := f
        obtain ⟨J, hJ⟩ : ∃ J, (posV L ⟨k, y, s⟩).getD 0 = J := ⟨_, rfl⟩
        obtain ⟨B, hBo⟩ : ∃ B, (posV L ⟨k, y, s⟩).isSome = B := ⟨_, rfl⟩
        simp only [hJ, hBo] at KF
        clear HP
        go_wp2_with fail
        refine KF.mono ?_
        rintro e w4 ⟨rfl, hb⟩
        have HP := Lib.hid (HC.out.below hb)
        have KF2 := HP.out.rfind
        simp only [hJ, hBo] at KF2
        obtain ⟨g0, g1, g2⟩ := HP.out.box
        clear KF hb HC f0 f1 f2
        go_wp2_with fail
        refine KF2.mono ?_
        rintro e w5 ⟨rfl, hb⟩
        have HQ := Lib.hid (HP.out.below hb)
        have KA := HQ.out.add HT.out
        obtain ⟨f0, f1, f2⟩ := HQ.out.box
        clear KF2 hb HP g0 g1 g2
        obtain ⟨I, hI⟩ : ∃ I, addI K L ⟨k, y, s⟩ = I := ⟨_, rfl⟩
        obtain ⟨E, hE⟩ : ∃ E, addE K L ⟨k, y, s⟩ = E := ⟨_, rfl⟩
        simp only [hI, hE] at KA
        clear HQ
        go_wp2_with fail
        refine KA.mono ?_
        rintro e w6 ⟨rfl, hP⟩
        have KA2 := hP.out.radd HT.out
        simp only [hI, hE] at KA2
        obtain ⟨g0, g1, g2⟩ := hP.out.box
        have n1 : ((J : Int) != (J : Int)) = false := by simp
        have n2 : (B != B) = false := by simp
        have n3 : ((I : Int) != (I : Int)) = false := by simp
        have n4 : (E != E) = false := by simp
        clear KA hP f0 f1 f2 hJ hBo hI hE
        go_wp2_with fail
        refine KA2.mono ?_
        rintro e w7 ⟨rfl, hP⟩
        have HF : Hid (∃ L, PairS w q p K (.pointer (some ⟨q2, 0, none⟩)) (.pointer (some ⟨p2, 0, none⟩)) L w7) := Lib.hid ⟨_, hP.out.bare⟩
        clear KA2 hP g0 g1 g2
        go_wp2_with fail
        go_roundw
        case rel => exact ⟨m + 1, by go_num, hlt, HF⟩
        case measure => simp [RowKit.intOf]; omega
      · have q0 : ((m : Int) == (H : Int)) = false := by rw [beq_eq_false_iff_ne]; omega
        have q1 : (m == H) = false := by rw [beq_eq_false_iff_ne]; exact hmH
        have HP := HB
        clear HB hmH
        have KF := (HP.out).find HT.out
        have HC := Lib.hid HP.out
        have f := HP.out.box
        obtain ⟨f0, f1, f2⟩ := f
        obtain ⟨J, hJ⟩ : ∃ J, (posV L ⟨k, y, s⟩).getD 0 = J := ⟨_, rfl⟩
        obtain ⟨B, hBo⟩ : ∃ B, (posV L ⟨k, y, s⟩).isSome = B := ⟨_, rfl⟩
        simp only [hJ, hBo] at KF
        clear HP
        go_wp2_with fail
        refine KF.mono ?_
        rintro e w4 ⟨rfl, hb⟩
        have HP := Lib.hid (HC.out.below hb)
        have KF2 := HP.out.rfind
        simp only [hJ, hBo] at KF2
        obtain ⟨g0, g1, g2⟩ := HP.out.box
        clear KF hb HC f0 f1 f2
        go_wp2_with fail
        refine KF2.mono ?_
        rintro e w5 ⟨rfl, hb⟩
        have HQ := Lib.hid (HP.out.below hb)
        have KA := HQ.out.add HT.out
        obtain ⟨f0, f1, f2⟩ := HQ.out.box
        clear KF2 hb HP g0 g1 g2
        obtain ⟨I, hI⟩ : ∃ I, addI K L ⟨k, y, s⟩ = I := ⟨_, rfl⟩
        obtain ⟨E, hE⟩ : ∃ E, addE K L ⟨k, y, s⟩ = E := ⟨_, rfl⟩
        simp only [hI, hE] at KA
        clear HQ
        go_wp2_with fail
        refine KA.mono ?_
        rintro e w6 ⟨rfl, hP⟩
        have KA2 := hP.out.radd HT.out
        simp only [hI, hE] at KA2
        obtain ⟨g0, g1, g2⟩ := hP.out.box
        have n1 : ((J : Int) != (J : Int)) = false := by simp
        have n2 : (B != B) = false := by simp
        have n3 : ((I : Int) != (I : Int)) = false := by simp
        have n4 : (E != E) = false := by simp
        clear KA hP f0 f1 f2 hJ hBo hI hE
        go_wp2_with fail
        refine KA2.mono ?_
        rintro e w7 ⟨rfl, hP⟩
        have HF : Hid (∃ L, PairS w q p K u9 u10 L w7) := Lib.hid ⟨_, hP.out.bare⟩
        clear KA2 hP g0 g1 g2
        go_wp2_with fail
        go_roundw
        case rel => exact ⟨m + 1, by go_num, hlt, HF⟩
        case measure => simp [RowKit.intOf]; omega
    · obtain ⟨L, E, hO, hM⟩ := HS.out
      have KV := side_dvalue hM mem0 id
      obtain ⟨y, hy⟩ : ∃ y, (atV L id).getD VV.none_ = y := ⟨_, rfl⟩
      obtain ⟨B, hBo⟩ : ∃ B, (atV L id).isSome = B := ⟨_, rfl⟩
      rw [hy, hBo] at KV
      have KV2 : Hid (∀ W, Below wr.heap.size wr W → Calls Try.prog 18 #[.pointer (some ⟨p, 0, none⟩), .int .i64 id] W fun e w' => e = .returned (.tuple #[y.val, .bool B]) ∧ Below W.heap.size W w') := Lib.hid (fun W hb => by
        have := side_rvalue (hM.below hb) mem1 id
        rw [hy, hBo] at this
        exact this)
      obtain ⟨R, hR⟩ : ∃ R, roomV K L xs = R := ⟨_, rfl⟩
      have hx6 : xs.length ≤ 1000000 := by have := HN.out; have := HL.out; omega
      have KRm := Lib.hid (fun W (hb : Below wr.heap.size wr W) => (show Calls Try.prog 20 #[.pointer (some ⟨q, 0, none⟩), .slice a N c] W fun e w' => e = .returned (.bool R) ∧ Below W.heap.size W w' from by
        have := side_droom (hM.below hb) mem0 (HV.out.below (hM.below hb).base) HX.out hx6
        rw [hR] at this
        exact this))
      have KRm2 := Lib.hid (fun W (hb : Below wr.heap.size wr W) => (show Calls Try.prog 21 #[.pointer (some ⟨p, 0, none⟩), .slice a N c] W fun e w' => e = .returned (.bool R) ∧ Below W.heap.size W w' from by
        have := side_rroom (hM.below hb) mem1 (HV.out.below (hM.below hb).base) HX.out hx6
        rw [hR] at this
        exact this))
      have KAl := Lib.hid (fun W (hb : Below wr.heap.size wr W) => side_alike (hM.below hb) mem0 mem1)
      have KAo := Lib.hid (fun W (hb : Below wr.heap.size wr W) => (show (u9 = .pointer none ∧ u10 = .pointer none) ∨ ∃ q2 p2, u9 = .pointer (some ⟨q2, 0, none⟩) ∧ u10 = .pointer (some ⟨p2, 0, none⟩) ∧ Calls Try.prog 19 #[.pointer (some ⟨q2, 0, none⟩), .pointer (some ⟨p2, 0, none⟩)] W fun e w' => e = .returned (.bool true) ∧ Below W.heap.size W w' from by
        rcases hO with ⟨e1, e2, _⟩ | ⟨q2, p2, L2, e1, e2, e3⟩
        · exact .inl ⟨e1, e2⟩
        · subst e3
          exact .inr ⟨q2, p2, e1, e2, side_alike (hM.below hb) mem2 mem3⟩))
      have HBW := Lib.hid (fun W (hb : Below wr.heap.size wr W) => (hM.below hb).base)
      have KE := neq_val
      have KU := guard_val
      have n1 : (B != B) = false := by simp
      have n2 : (R != R) = false := by simp
      obtain ⟨yk, yn, ys⟩ := y
      clear HS HS0 hm hM hO hy hBo hR hx6
      go_wp2_with fail
      refine KV.mono ?_
      rintro e w3 ⟨rfl, hb⟩
      have hB3 := hb.alloc hb.size (.cells #[.int .i64 yk, .int .i64 yn, .string ys] 29)
      have HB3 := Lib.hid hB3
      have HZ3 := Lib.hid (C3.new w3 (.int .i64 yk) (.int .i64 yn) (.string ys) 29)
      have KV3 := KV2.out _ hB3
      clear KV KV2 hb hB3
      go_wp2_with fail
      refine KV3.mono ?_
      rintro e w4 ⟨rfl, hb⟩
      have hB4 := (HB3.out.trans (hb.mono HB3.out.size)).alloc (HB3.out.trans (hb.mono HB3.out.size)).size (.cells #[.int .i64 yk, .int .i64 yn, .string ys] 29)
      have HB4 := Lib.hid hB4
      obtain ⟨y0, y1, y2⟩ := HZ3.out.keep hb (by simp)
      have f0 := cell_alloc (o := (.cells #[.int .i64 yk, .int .i64 yn, .string ys] 29)) y0
      have f1 := cell_alloc (o := (.cells #[.int .i64 yk, .int .i64 yn, .string ys] 29)) y1
      have f2 := cell_alloc (o := (.cells #[.int .i64 yk, .int .i64 yn, .string ys] 29)) y2
      have KA1 := KAl.out _ hB4
      clear KV3 hb hB4 HB3 HZ3 y0 y1 y2 KAl
      go_wp2_with fail
      refine KA1.mono ?_
      rintro e w5 ⟨rfl, hb⟩
      have HB5 := Lib.hid (HB4.out.trans (hb.mono HB4.out.size))
      have KR1 := KRm.out _ HB5.out
      clear KA1 hb HB4 KRm f0 f1 f2
      go_wp2_with fail
      refine KR1.mono ?_
      rintro e w6 ⟨rfl, hb⟩
      have HB6 := Lib.hid (HB5.out.trans (hb.mono HB5.out.size))
      have KR2 := KRm2.out _ HB6.out
      clear KR1 hb HB5 KRm2
      go_wp2_with fail
      refine KR2.mono ?_
      rintro e w7 ⟨rfl, hb⟩
      have HB7 := Lib.hid (HB6.out.trans (hb.mono HB6.out.size))
      have KO := KAo.out _ HB7.out
      clear KR2 hb HB6 KAo
      rcases KO with ⟨rfl, rfl⟩ | ⟨q2, p2, rfl, rfl, KO⟩
      · have HB5 := Lib.hid (HBW.out _ HB7.out)
        go_wp2_with fail
        refine (KL _).mono ?_
        rintro e w' ⟨rfl, hb⟩
        have FB := Lib.hid (HB5.out.trans (hb.mono HB5.out.size))
        clear hb
        go_wp2_with fail
        go_ret
        exact ⟨rfl, FB.out⟩
      · go_wp2_with fail
        refine KO.mono ?_
        rintro e w8 ⟨rfl, hb⟩
        have HB5 := Lib.hid (HBW.out _ (HB7.out.trans (hb.mono HB7.out.size)))
        clear KO hb HB7 HBW
        go_wp2_with fail
        refine (KL _).mono ?_
        rintro e w' ⟨rfl, hb⟩
        have FB := Lib.hid (HB5.out.trans (hb.mono HB5.out.size))
        clear hb
        go_wp2_with fail
        go_ret
        exact ⟨rfl, FB.out⟩
end Go.Proofs.Ytdbaeghhlhkobaa
