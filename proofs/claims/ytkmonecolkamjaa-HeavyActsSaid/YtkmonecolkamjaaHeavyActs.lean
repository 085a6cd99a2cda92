/- The walk of HeavyActs. Conditions: none. -/
import Derived.Test.YtkmonecolkamjaaHeavyFour
set_option maxRecDepth 100000
namespace Go.Proofs.Ytkmonecolkamjaa
open Go.ChangeShapes Go.WideShapes Go.ChangeAt Go.RowKit Go.Maps Go.Sort Go.Deep Go.Joins

/-- act i of the argument, as it lies in memory -/
structure ActK (w : World) (ad : Addr) (i : Nat) (kd y z : Int) : Prop where
  c0 : w.cell? (ad.add (i * 3 + 0)) = some (.int .i64 kd)
  c1 : w.cell? (ad.add (i * 3 + 1)) = some (.int .i64 y)
  c2 : w.cell? (ad.add (i * 3 + 2)) = some (.int .i64 z)
  hy : InI y
theorem ActK.read {w0 w : World} {ad : Addr} {i : Nat} {kd y z : Int} (A : ActK w0 ad i kd y z) (hb : Below w0.heap.size w0 w) :
    w.cell? (ad.add (i * 3)) = some (.int .i64 kd) ∧ w.cell? ⟨(ad.add (i * 3)).block, (ad.add (i * 3)).off + 1, none⟩ = some (.int .i64 y) ∧ w.cell? ⟨(ad.add (i * 3)).block, (ad.add (i * 3)).off + 2, none⟩ = some (.int .i64 z) := by
  have K := fun {x : Addr} {v : Value} (g : w0.cell? x = some v) => (World.cell?_of_block (w := w0) (hb.block _ (World.block_lt_of_cell? w0 _ g))).trans g
  exact ⟨K A.c0, by rw [← add_offn ad _ 1 (by omega)]; exact K A.c1, by rw [← add_offn ad _ 2 (by omega)]; exact K A.c2⟩
def ActsK (w : World) (ar : Option Addr) (len : Nat) : Prop := ∀ i, i < len → ∃ ad, ar = some ad ∧ ∃ kd y z, ActK w ad i kd y z

theorem acts_of {H : Type} {enc : TypeId × Value → H} {w : World} {v : Value} {d : DataW H} {p : List MemPlace} {r : Reach} {b0 : Nat} (hv : Value.okWide Try.prog w r b0 23 v)
    (h : DataW.Trod enc Try.prog w 0 (fun _ => true) true 23 v d p) : ∃ a n c, v = .slice a n c ∧ ActsK w a n := by
  obtain ⟨a, n, c, rfl⟩ := okWide_slice Try.underlying23 hv
  obtain ⟨fuel, hf⟩ := h
  refine ⟨a, n, c, rfl, ?_⟩
  rcases open_structs (Try.underlying23) (Try.underlying30) (by kernel_rfl) (by kernel_rfl) hf with hcs | ⟨a', len, cap, hcs, _, _, hi⟩
  · simp [Value.cells] at hcs
    obtain ⟨rfl, rfl, rfl⟩ := hcs
    exact fun i hi => by omega
  · simp [Value.cells] at hcs
    obtain ⟨rfl, rfl, rfl⟩ := hcs
    intro i hil
    obtain ⟨n', hf'⟩ := hi i hil
    obtain ⟨v0, y0, c0, t0⟩ := hf' 0 _ rfl
    obtain ⟨v1, y1, c1, t1⟩ := hf' 1 _ rfl
    obtain ⟨v2, y2, c2, t2⟩ := hf' 2 _ rfl
    obtain ⟨b0, e0, _, z0⟩ := DataW.trod_int Try.underlying3 t0
    obtain ⟨b1, e1, _, z1⟩ := DataW.trod_int Try.underlying3 t1
    obtain ⟨b2, e2, _, z2⟩ := DataW.trod_int Try.underlying3 t2
    simp only [List.cons.injEq, and_true] at e0 e1 e2
    subst e0 e1 e2
    have x1 := bounds_of_i64 z1
    exact ⟨a', rfl, b0, b1, b2, c0, c1, c2, by unfold InI; omega⟩

/-- the state between rounds -/
def Quad (w : World) (p q r o : Nat) (V U : HV) (W : World) : Prop := ∃ i j a d, [0, i, j, a, d].Nodup ∧ Side w [(i, Hk p V), (j, Hk q U), (a, RK r V), (d, RK o U)] W
def ActI (w : World) (m : Nat) (p q r o : Nat) (W : World) : Prop := ∃ V U, (V.m = m ∧ U.m = m) ∧ Quad w p q r o V U W
theorem Quad.box {w W : World} {p q r o : Nat} {V U : HV} (h : Quad w p q r o V U W) (ob' : Obj) : Four w W.heap.size ob' p q r o V U V U (W.alloc ob') := by
  obtain ⟨i, j, a, d, hn, h⟩ := h
  refine ⟨i, j, a, d, hn, (h.alloc 0 ob').sub (fun x hx => ?_)⟩
  simp at hx ⊢
  rcases hx with rfl | rfl | rfl | rfl | rfl <;> simp
theorem Four.quad {w W : World} {b p q r o : Nat} {ob : Obj} {V U : HV} (h : Four w b ob p q r o V U V U W) : Quad w p q r o V U W := by
  obtain ⟨i, j, a, d, hn, h⟩ := h
  refine ⟨i, j, a, d, hn, h.sub (fun x hx => ?_)⟩
  simp at hx ⊢
  rcases hx with rfl | rfl | rfl | rfl <;> simp
theorem Quad.base {w W : World} {p q r o : Nat} {V U : HV} (h : Quad w p q r o V U W) : Below w.heap.size w W := by
  obtain ⟨i, j, a, d, hn, h⟩ := h
  exact h.base
/-- the others' alike -/
theorem Quad.alike {w W : World} {p q r o : Nat} {V U : HV} (h : Quad w p q r o V U W) (z : Int) :
    Calls Try.prog 18 #[.pointer (some ⟨q, 0, none⟩), .pointer (some ⟨o, 0, none⟩), .int .i64 z] W fun e w' => e = .returned (.bool true) ∧ Below w.heap.size w w' := by
  have hb := h.base
  obtain ⟨i, j, a, d, hn, h⟩ := h
  obtain ⟨T, h1, h2⟩ := side_two h (A := Hk q U) (B := RK o U) (i := j) (j := d) (by simp) (by simp)
  exact (alike_any h1 h2 z).mono fun _ _ ⟨h1, h2⟩ => ⟨h1, hb.trans (h2.mono hb.size)⟩
/-- what a round leaves -/
theorem actI {w W : World} {b p q r o m : Nat} {ob : Obj} {V U : HV} (h : Four w b ob p q r o V U V U W) (h1 : V.m = m) (h2 : U.m = m) : Hid (ActI w m p q r o W) := Lib.hid ⟨V, U, ⟨h1, h2⟩, h.quad⟩

section
variable {w : World}
set_option maxHeartbeats 6400000 in
theorem acts_long (u : Nat) (hu : u < 18446744073709551616) (la : Option Addr) (ln lc : Nat) (hln : 1000 < ln) :
    Calls Try.prog 3 #[.int .u64 (u : Int), .slice la ln lc] w fun e w' => e = .returned (.bool true) ∧ Below w.heap.size w w' := by
  obtain ⟨m, hm⟩ : ∃ m : Nat, m = 1 + u % 64 := ⟨_, rfl⟩
  have e1 : (1 : Int) + (u : Int) % 64 = (m : Int) := by omega
  have hu0 : (0 : Int) ≤ (u : Int) := by omega
  have hu1 : (u : Int) < 18446744073709551616 := by omega
  have m1 : 1 ≤ m := by omega
  have m2 : m ≤ 64 := by omega
  have K1 := side_new (Side.nil w) 1 m1 m2
  have K2 := Lib.hid fun W p (h : Side w [(1, Hk p (HV.none_ m))] W) => side_new h 2 m1 m2
  have K3 := Lib.hid fun W E (h : Side w E W) i => (h.make i (fun p => RK p (HV.none_ m)) (fun p => RK.framed p _) (R := fun p e => e = .returned (.pointer (some ⟨p, 0, none⟩))) fun T _ => rk_new m1 m2 T i)
  have KL := Lib.hid (fun W => lives_any W)
  have tl : decide ((1000 : Int) < (ln : Int)) = true := decide_eq_true (by omega)
  clear hm hu hln m1 m2
  go_enter Try.func3, Try.ntmps3
  go_wp2_with fail
  refine K1.mono ?_
  rintro e w1 ⟨p, rfl, S1⟩
  have K2' := K2.out _ _ S1.out
  clear K1 K2 e1 hu0 hu1
  go_wp2_with fail
  refine K2'.mono ?_
  rintro e w2 ⟨q, rfl, S2⟩
  have K3' := K3.out _ _ S2.out 3
  clear K2' S1
  go_wp2_with fail
  refine K3'.mono ?_
  rintro e w3 ⟨r, rfl, S3⟩
  have K4' := K3.out _ _ S3.out 4
  clear K3' S2 K3
  go_wp2_with fail
  refine K4'.mono ?_
  rintro e w4 ⟨o, rfl, S4⟩
  have HB := Lib.hid S4.out.base
  have KL' := KL.out w4
  clear K4' S3 S4 KL
  go_wp2_with fail
  refine KL'.mono ?_
  rintro e w5 ⟨rfl, hb⟩
  have HF := Lib.hid (HB.out.trans (hb.mono HB.out.size))
  clear KL' hb HB
  go_wp2_with fail
  go_ret
  exact ⟨rfl, HF.out⟩

set_option maxHeartbeats 12800000 in
theorem acts_main (u : Nat) (hu : u < 18446744073709551616) (la : Option Addr) (ln lc : Nat) (hA : ActsK w la ln) (hln : ln ≤ 1000) :
    Calls Try.prog 3 #[.int .u64 (u : Int), .slice la ln lc] w fun e w' => e = .returned (.bool true) ∧ Below w.heap.size w w' := by
  obtain ⟨m, hm⟩ : ∃ m : Nat, m = 1 + u % 64 := ⟨_, rfl⟩
  have e1 : (1 : Int) + (u : Int) % 64 = (m : Int) := by omega
  have hu0 : (0 : Int) ≤ (u : Int) := by omega
  have hu1 : (u : Int) < 18446744073709551616 := by omega
  have m1 : 1 ≤ m := by omega
  have m2 : m ≤ 64 := by omega
  have K1 := side_new (Side.nil w) 1 m1 m2
  have K2 := Lib.hid fun W p (h : Side w [(1, Hk p (HV.none_ m))] W) => side_new h 2 m1 m2
  have K3 := Lib.hid fun W E (h : Side w E W) i => (h.make i (fun p => RK p (HV.none_ m)) (fun p => RK.framed p _) (R := fun p e => e = .returned (.pointer (some ⟨p, 0, none⟩))) fun T _ => rk_new m1 m2 T i)
  have tl : decide ((1000 : Int) < (ln : Int)) = false := decide_eq_false (by omega)
  have HA := Lib.hid hA
  clear hm hu m1 m2 hA
  go_enter Try.func3, Try.ntmps3
  go_wp2_with fail
  refine K1.mono ?_
  rintro e w1 ⟨p1, rfl, S1⟩
  have K2' := K2.out _ _ S1.out
  clear K1 K2 e1 hu0 hu1
  go_wp2_with fail
  refine K2'.mono ?_
  rintro e w2 ⟨p2, rfl, S2⟩
  have K3' := K3.out _ _ S2.out 3
  clear K2' S1
  go_wp2_with fail
  refine K3'.mono ?_
  rintro e w3 ⟨p3, rfl, S3⟩
  have K4' := K3.out _ _ S3.out 4
  clear K3' S2 K3
  go_wp2_with fail
  refine K4'.mono ?_
  rintro e w4 ⟨p4, rfl, S4⟩
  have HI : Hid (ActI w m p1 p2 p3 p4 w4) := Lib.hid ⟨HV.none_ m, HV.none_ m, ⟨rfl, rfl⟩, 1, 2, 3, 4, by decide, S4.out.sub (fun x hx => by simp at hx ⊢; rcases hx with rfl | rfl | rfl | rfl <;> simp)⟩
  clear K4' S3 S4
  go_wp2_with fail
  clear tl
  go_loopw [6, 7, 8, 9, 11, 12, 37] (fun sh so sr sp _ _ c wr => ∃ i p q r o : Nat, c = .int .i64 i ∧ i ≤ ln ∧ sh = .pointer (some ⟨p, 0, none⟩) ∧ so = .pointer (some ⟨q, 0, none⟩) ∧ sr = .pointer (some ⟨r, 0, none⟩) ∧ sp = .pointer (some ⟨o, 0, none⟩) ∧ Hid (ActI w m p q r o wr)) (fun _ _ _ _ _ _ c _ => ln - (intOf c).toNat)
  case atStart => exact ⟨0, p1, p2, p3, p4, rfl, Nat.zero_le _, rfl, rfl, rfl, rfl, HI.out⟩
  case round =>
    clear HI
    obtain ⟨i, p, q, r, o, rfl, hi, rfl, rfl, rfl, rfl, HI⟩ := hrel
    by_cases hlt : i < ln
    · obtain ⟨ad, rfl, kd, y, z, A⟩ := HA.out i hlt
      obtain ⟨V, U, hv, hF⟩ := HI.out
      obtain ⟨c0, c1, c2⟩ := A.read hF.base
      have hy := A.hy
      have F1 := Lib.hid (hF.box (.cells #[.int .i64 kd, .int .i64 y, .int .i64 z] 30))
      have HV := Lib.hid hv
      have b0 : (0 : Int) ≤ (i : Int) := by omega
      have b1 : (i : Int) < (ln : Int) := by omega
      clear hF HI A hv
      by_cases h0 : kd = 0
      · subst h0
        have K1 := f_ins F1.out hy
        have KI := Lib.hid (fun W V' (h : Four w wr.heap.size (.cells #[.int .i64 0, .int .i64 y, .int .i64 z] 30) p q r o (V.ins y) U V' U W) => f_rins h hy)
        clear F1
        go_wp2_with fail
        refine K1.mono ?_
        rintro e w2 ⟨rfl, f2⟩
        obtain ⟨d0, d1, d2⟩ : w2.cell? ⟨wr.heap.size, 0, none⟩ = some (.int .i64 0) ∧ w2.cell? ⟨wr.heap.size, 1, none⟩ = some (.int .i64 y) ∧ w2.cell? ⟨wr.heap.size, 2, none⟩ = some (.int .i64 z) := ⟨by rw [cell_of_row _ _ _ _ _ _ f2.heap]; rfl, by rw [cell_of_row _ _ _ _ _ _ f2.heap]; rfl, by rw [cell_of_row _ _ _ _ _ _ f2.heap]; rfl⟩
        have K2 := KI.out _ _ f2
        clear K1 KI f2 c0 c1 c2
        go_wp2_with fail
        refine K2.mono ?_
        rintro e w3 ⟨rfl, f3⟩
        have F3 := Lib.hid f3
        clear d0 d1 d2
        obtain ⟨d0, d1, d2⟩ : w3.cell? ⟨wr.heap.size, 0, none⟩ = some (.int .i64 0) ∧ w3.cell? ⟨wr.heap.size, 1, none⟩ = some (.int .i64 y) ∧ w3.cell? ⟨wr.heap.size, 2, none⟩ = some (.int .i64 z) := ⟨by rw [cell_of_row _ _ _ _ _ _ f3.heap]; rfl, by rw [cell_of_row _ _ _ _ _ _ f3.heap]; rfl, by rw [cell_of_row _ _ _ _ _ _ f3.heap]; rfl⟩
        clear K2 f3
        go_wp2_with fail
        refine (f_alike F3.out z).mono ?_
        rintro e wz ⟨rfl, FA⟩
        have HF := actI FA ((V.ins_m y).trans HV.out.1) HV.out.2
        clear FA F3
        go_wp2_with fail
        go_roundw
        case rel => exact ⟨i + 1, p, q, r, o, by go_num, by omega, rfl, rfl, rfl, rfl, HF⟩
        case measure => simp [intOf]; omega
      by_cases h1 : kd = 1
      · subst h1
        clear h0
        by_cases hfull : V.n + U.n ≤ 1125899906842624
        · have K1 := f_merge F1.out (by rw [HV.out.1, HV.out.2]) hfull
          have KI := Lib.hid (fun W V' (h : Four w wr.heap.size (.cells #[.int .i64 1, .int .i64 y, .int .i64 z] 30) p q r o V' U V U W) => f_rmerge h (by rw [HV.out.1, HV.out.2]) hfull)
          clear F1
          go_wp2_with fail
          refine K1.mono ?_
          rintro e w2 ⟨rfl, V1, hM, f2⟩
          have K2 := KI.out _ _ f2
          have HM := Lib.hid hM
          clear K1 KI f2 c0 c1 c2 hM
          go_wp2_with fail
          refine K2.mono ?_
          rintro e w3 ⟨rfl, V2, hM2, f3⟩
          obtain rfl := HM.out.one hM2
          have F3 := Lib.hid f3
          obtain ⟨d0, d1, d2⟩ : w3.cell? ⟨wr.heap.size, 0, none⟩ = some (.int .i64 1) ∧ w3.cell? ⟨wr.heap.size, 1, none⟩ = some (.int .i64 y) ∧ w3.cell? ⟨wr.heap.size, 2, none⟩ = some (.int .i64 z) := ⟨by rw [cell_of_row _ _ _ _ _ _ f3.heap]; rfl, by rw [cell_of_row _ _ _ _ _ _ f3.heap]; rfl, by rw [cell_of_row _ _ _ _ _ _ f3.heap]; rfl⟩
          clear K2 f3 hM2
          go_wp2_with fail
          refine (f_alike F3.out z).mono ?_
          rintro e wz ⟨rfl, FA⟩
          have HF := actI FA (HM.out.1.trans HV.out.1) HV.out.2
          clear FA F3
          go_wp2_with fail
          go_roundw
          case rel => exact ⟨i + 1, p, q, r, o, by go_num, by omega, rfl, rfl, rfl, rfl, HF⟩
          case measure => simp [intOf]; omega
        · have K1 := f_merge_full F1.out (by rw [HV.out.1, HV.out.2]) (by omega)
          have KI := Lib.hid (fun W V' (h : Four w wr.heap.size (.cells #[.int .i64 1, .int .i64 y, .int .i64 z] 30) p q r o V' U V U W) => f_rmerge_full h (by rw [HV.out.1, HV.out.2]) (by omega))
          clear F1
          go_wp2_with fail
          refine K1.mono ?_
          rintro e w2 ⟨rfl, f2⟩
          have K2 := KI.out _ _ f2
          clear K1 KI f2 c0 c1 c2
          go_wp2_with fail
          refine K2.mono ?_
          rintro e w3 ⟨rfl, f3⟩
          have F3 := Lib.hid f3
          obtain ⟨d0, d1, d2⟩ : w3.cell? ⟨wr.heap.size, 0, none⟩ = some (.int .i64 1) ∧ w3.cell? ⟨wr.heap.size, 1, none⟩ = some (.int .i64 y) ∧ w3.cell? ⟨wr.heap.size, 2, none⟩ = some (.int .i64 z) := ⟨by rw [cell_of_row _ _ _ _ _ _ f3.heap]; rfl, by rw [cell_of_row _ _ _ _ _ _ f3.heap]; rfl, by rw [cell_of_row _ _ _ _ _ _ f3.heap]; rfl⟩
          clear K2 f3
          go_wp2_with fail
          refine (f_alike F3.out z).mono ?_
          rintro e wz ⟨rfl, FA⟩
          have HF := actI FA HV.out.1 HV.out.2
          clear FA F3
          go_wp2_with fail
          go_roundw
          case rel => exact ⟨i + 1, p, q, r, o, by go_num, by omega, rfl, rfl, rfl, rfl, HF⟩
          case measure => simp [intOf]; omega
      by_cases h2 : kd = 2
      · subst h2
        clear h0 h1
        by_cases hfull : V.n + V.n ≤ 1125899906842624
        · have K1 := f_self F1.out hfull
          have KI := Lib.hid fun W V1 x (h : FourC w wr.heap.size (.cells #[.int .i64 2, .int .i64 y, .int .i64 z] 30) p q r o x V1 U V U (RK x V) W) => f_rmerge_copy h hfull
          clear F1
          go_wp2_with fail
          refine K1.mono ?_
          rintro e w2 ⟨rfl, V1, hM, f2⟩
          have K2 := f_rcopy f2
          have HM := Lib.hid hM
          clear K1 f2 c0 c1 c2 hM
          go_wp2_with fail
          refine K2.mono ?_
          rintro e w3 ⟨x, rfl, f3⟩
          have K3 := KI.out _ _ _ f3
          clear K2 f3 KI
          go_wp2_with fail
          refine K3.mono ?_
          rintro e w4 ⟨rfl, V2, hM2, f4⟩
          obtain rfl := HM.out.one hM2
          have F4 := Lib.hid f4
          obtain ⟨d0, d1, d2⟩ : w4.cell? ⟨wr.heap.size, 0, none⟩ = some (.int .i64 2) ∧ w4.cell? ⟨wr.heap.size, 1, none⟩ = some (.int .i64 y) ∧ w4.cell? ⟨wr.heap.size, 2, none⟩ = some (.int .i64 z) := ⟨by rw [cell_of_row _ _ _ _ _ _ f4.heap]; rfl, by rw [cell_of_row _ _ _ _ _ _ f4.heap]; rfl, by rw [cell_of_row _ _ _ _ _ _ f4.heap]; rfl⟩
          clear K3 f4 hM2
          go_wp2_with fail
          refine (f_alike F4.out z).mono ?_
          rintro e wz ⟨rfl, FA⟩
          have HF := actI FA (HM.out.1.trans HV.out.1) HV.out.2
          clear FA F4
          go_wp2_with fail
          go_roundw
          case rel => exact ⟨i + 1, p, q, r, o, by go_num, by omega, rfl, rfl, rfl, rfl, HF⟩
          case measure => simp [intOf]; omega
        · have K1 := f_self_full F1.out (by omega)
          have KI := Lib.hid fun W V1 x (h : FourC w wr.heap.size (.cells #[.int .i64 2, .int .i64 y, .int .i64 z] 30) p q r o x V1 U V U (RK x V) W) => f_rmerge_copy_full h (by omega)
          clear F1
          go_wp2_with fail
          refine K1.mono ?_
          rintro e w2 ⟨rfl, f2⟩
          have K2 := f_rcopy f2
          clear K1 f2 c0 c1 c2
          go_wp2_with fail
          refine K2.mono ?_
          rintro e w3 ⟨x, rfl, f3⟩
          have K3 := KI.out _ _ _ f3
          clear K2 f3 KI
          go_wp2_with fail
          refine K3.mono ?_
          rintro e w4 ⟨rfl, f4⟩
          have F4 := Lib.hid f4
          obtain ⟨d0, d1, d2⟩ : w4.cell? ⟨wr.heap.size, 0, none⟩ = some (.int .i64 2) ∧ w4.cell? ⟨wr.heap.size, 1, none⟩ = some (.int .i64 y) ∧ w4.cell? ⟨wr.heap.size, 2, none⟩ = some (.int .i64 z) := ⟨by rw [cell_of_row _ _ _ _ _ _ f4.heap]; rfl, by rw [cell_of_row _ _ _ _ _ _ f4.heap]; rfl, by rw [cell_of_row _ _ _ _ _ _ f4.heap]; rfl⟩
          clear K3 f4
          go_wp2_with fail
          refine (f_alike F4.out z).mono ?_
          rintro e wz ⟨rfl, FA⟩
          have HF := actI FA HV.out.1 HV.out.2
          clear FA F4
          go_wp2_with fail
          go_roundw
          case rel => exact ⟨i + 1, p, q, r, o, by go_num, by omega, rfl, rfl, rfl, rfl, HF⟩
          case measure => simp [intOf]; omega
      by_cases h3 : kd = 3
      · subst h3
        clear h0 h1 h2
        have F3 := Lib.hid F1.out.swap
        have f3 := F3.out
        obtain ⟨d0, d1, d2⟩ : (wr.alloc (.cells #[.int .i64 3, .int .i64 y, .int .i64 z] 30)).cell? ⟨wr.heap.size, 0, none⟩ = some (.int .i64 3) ∧ (wr.alloc (.cells #[.int .i64 3, .int .i64 y, .int .i64 z] 30)).cell? ⟨wr.heap.size, 1, none⟩ = some (.int .i64 y) ∧ (wr.alloc (.cells #[.int .i64 3, .int .i64 y, .int .i64 z] 30)).cell? ⟨wr.heap.size, 2, none⟩ = some (.int .i64 z) := ⟨by rw [cell_of_row _ _ _ _ _ _ f3.heap]; rfl, by rw [cell_of_row _ _ _ _ _ _ f3.heap]; rfl, by rw [cell_of_row _ _ _ _ _ _ f3.heap]; rfl⟩
        clear F1 f3
        go_wp2_with fail
        refine (f_alike F3.out z).mono ?_
        rintro e wz ⟨rfl, FA⟩
        have HF := actI FA HV.out.2 HV.out.1
        clear FA F3
        go_wp2_with fail
        go_roundw
        case rel => exact ⟨i + 1, q, p, o, r, by go_num, by omega, rfl, rfl, rfl, rfl, HF⟩
        case measure => simp [intOf]; omega
      by_cases h4 : kd = 4
      · subst h4
        clear h0 h1 h2 h3
        have K1 := f_copy F1.out
        clear F1
        go_wp2_with fail
        refine K1.mono ?_
        rintro e w2 ⟨x, rfl, f2⟩
        obtain ⟨d0, d1, d2⟩ : w2.cell? ⟨wr.heap.size, 0, none⟩ = some (.int .i64 4) ∧ w2.cell? ⟨wr.heap.size, 1, none⟩ = some (.int .i64 y) ∧ w2.cell? ⟨wr.heap.size, 2, none⟩ = some (.int .i64 z) := ⟨by rw [cell_of_row _ _ _ _ _ _ f2.heap]; rfl, by rw [cell_of_row _ _ _ _ _ _ f2.heap]; rfl, by rw [cell_of_row _ _ _ _ _ _ f2.heap]; rfl⟩
        have K2 := f_ins_old f2 hy
        clear K1 f2 c0 c1 c2
        go_wp2_with fail
        refine K2.mono ?_
        rintro e w3 ⟨rfl, f3⟩
        have F3 := Lib.hid f3
        clear d0 d1 d2
        obtain ⟨d0, d1, d2⟩ : w3.cell? ⟨wr.heap.size, 0, none⟩ = some (.int .i64 4) ∧ w3.cell? ⟨wr.heap.size, 1, none⟩ = some (.int .i64 y) ∧ w3.cell? ⟨wr.heap.size, 2, none⟩ = some (.int .i64 z) := ⟨by rw [cell_of_row _ _ _ _ _ _ f3.heap]; rfl, by rw [cell_of_row _ _ _ _ _ _ f3.heap]; rfl, by rw [cell_of_row _ _ _ _ _ _ f3.heap]; rfl⟩
        clear K2 f3
        go_wp2_with fail
        refine (f_alike F3.out z).mono ?_
        rintro e wz ⟨rfl, FA⟩
        have HF := actI FA HV.out.1 HV.out.2
        clear FA F3
        go_wp2_with fail
        go_roundw
        case rel => exact ⟨i + 1, x, q, r, o, by go_num, by omega, rfl, rfl, rfl, rfl, HF⟩
        case measure => simp [intOf]; omega
      have t0 : (kd == 0) = false := by simpa using h0
      have t1 : (kd == 1) = false := by simpa using h1
      have t2 : (kd == 2) = false := by simpa using h2
      have t3 : (kd == 3) = false := by simpa using h3
      have t4 : (kd == 4) = false := by simpa using h4
      clear h0 h1 h2 h3 h4
      go_wp2_with fail
      refine (f_alike F1.out z).mono ?_
      rintro e wz ⟨rfl, FA⟩
      have HF := actI FA HV.out.1 HV.out.2
      clear FA F1
      go_wp2_with fail
      go_roundw
      case rel => exact ⟨i + 1, p, q, r, o, by go_num, by omega, rfl, rfl, rfl, rfl, HF⟩
      case measure => simp [intOf]; omega
    · obtain ⟨V, U, hv, hF⟩ := HI.out
      have K1 := hF.alike 2
      have KL := Lib.hid (fun W => lives_any W)
      clear HI hF HA
      go_wp2_with fail
      refine K1.mono ?_
      rintro e w2 ⟨rfl, hb⟩
      have HB := Lib.hid hb
      have K2 := KL.out w2
      clear K1 KL hb
      go_wp2_with fail
      refine K2.mono ?_
      rintro e w3 ⟨rfl, hb⟩
      have HF := Lib.hid (HB.out.trans (hb.mono HB.out.size))
      clear K2 hb HB
      go_wp2_with fail
      go_ret
      exact ⟨rfl, HF.out⟩

theorem acts_walk (u : Nat) (hu : u < 18446744073709551616) (la : Option Addr) (ln lc : Nat) (hA : ActsK w la ln) :
    Calls Try.prog 3 #[.int .u64 (u : Int), .slice la ln lc] w fun e w' => e = .returned (.bool true) ∧ Below w.heap.size w w' := by
  by_cases h : 1000 < ln
  · exact acts_long u hu la ln lc h
  · exact acts_main u hu la ln lc hA (by omega)
end
end Go.Proofs.Ytkmonecolkamjaa
