/- The texts RqActs, one behind the other; each one's own comment says what it holds. -/
import Derived.Test.YtahaoodklfmddaaDigestActsRowGS
/- The walk of DigestActs. Conditions: none. -/
set_option maxRecDepth 100000
namespace Go.Proofs.Ytahaoodklfmddaa
open Go.ChangeShapes Go.WideShapes Go.ChangeAt Go.RowKit Go.Maps Go.Sort Go.Deep Go.Joins Go.Shelf

/-- act i of the argument, as it lies in memory -/
structure ActK (w : World) (ad : Addr) (i : Nat) (kd : Int) (x z : Nat) : Prop where
  c0 : w.cell? (ad.add (i * 3 + 0)) = some (.int .i64 kd)
  c1 : w.cell? (ad.add (i * 3 + 1)) = some (.int .u64 (x : Int))
  c2 : w.cell? (ad.add (i * 3 + 2)) = some (.int .u64 (z : Int))
  hx : x < 18446744073709551616
  hz : z < 18446744073709551616
theorem ActK.read {w0 w : World} {ad : Addr} {i : Nat} {kd : Int} {x z : Nat} (A : ActK w0 ad i kd x z) (hb : Below w0.heap.size w0 w) :
    w.cell? (ad.add (i * 3)) = some (.int .i64 kd) ∧ w.cell? ⟨(ad.add (i * 3)).block, (ad.add (i * 3)).off + 1, none⟩ = some (.int .u64 (x : Int)) ∧ w.cell? ⟨(ad.add (i * 3)).block, (ad.add (i * 3)).off + 2, none⟩ = some (.int .u64 (z : Int)) := by
  have K := fun {x : Addr} {v : Value} (g : w0.cell? x = some v) => (World.cell?_of_block (w := w0) (hb.block _ (World.block_lt_of_cell? w0 _ g))).trans g
  exact ⟨K A.c0, by rw [← add_offn ad _ 1 (by omega)]; exact K A.c1, by rw [← add_offn ad _ 2 (by omega)]; exact K A.c2⟩
def ActsK (w : World) (ar : Option Addr) (len : Nat) : Prop := ∀ i, i < len → ∃ ad, ar = some ad ∧ ∃ kd y z, ActK w ad i kd y z

theorem acts_of {H : Type} {enc : TypeId × Value → H} {w : World} {v : Value} {d : DataW H} {p : List MemPlace} {r : Reach} {b0 : Nat} (hv : Value.okWide Try.prog w r b0 23 v)
    (h : DataW.Trod enc Try.prog w 0 (fun _ => true) true 23 v d p) : ∃ a n c, v = .slice a n c ∧ ActsK w a n := by
  obtain ⟨a, n, c, rfl⟩ := okWide_slice Try.underlying23 hv
  obtain ⟨fuel, hf⟩ := h
  refine ⟨a, n, c, rfl, ?_⟩
  rcases open_structs (Try.underlying23) (Try.underlying31) (by kernel_rfl) (by kernel_rfl) hf with hcs | ⟨a', len, cap, hcs, _, _, hi⟩
  · simp [Value.cells] at hcs
    obtain ⟨rfl, rfl, rfl⟩ := hcs
    exact fun i hi => by omega
  · simp [Value.cells] at hcs
    obtain ⟨rfl, rfl, rfl⟩ := hcs
    intro i hil
    obtain ⟨n', hf'⟩ := hi i hil
    obtain ⟨v0, y0, c0, t0⟩ := hf' 0 _ rfl
    obtain ⟨v1, y1, c1, t1⟩ := hf' 1 _ rfl
    obtain ⟨v2, y2, c2, t2⟩ := hf' 2 _ rfl
    obtain ⟨b0, e0, _, z0⟩ := DataW.trod_int Try.underlying3 t0
    obtain ⟨b1, e1, _, z1⟩ := DataW.trod_int Try.underlying29 t1
    obtain ⟨b2, e2, _, z2⟩ := DataW.trod_int Try.underlying22 t2
    simp only [List.cons.injEq, and_true] at e0 e1 e2
    subst e0 e1 e2
    have x1 := bounds_of_u64 z1
    have x2 := bounds_of_u64 z2
    obtain ⟨x, rfl⟩ : ∃ x : Nat, b1 = x := ⟨b1.toNat, by omega⟩
    obtain ⟨z, rfl⟩ : ∃ z : Nat, b2 = z := ⟨b2.toNat, by omega⟩
    exact ⟨a', rfl, b0, x, z, c0, c1, c2, by omega, by omega⟩

theorem Four.act {w W : World} {b p q r o k : Nat} {V U V' U' : DS} {a0 a1 a2 : Value} (h : Four w b (.cells #[a0, a1, a2] 31) p q r o k V U V' U' W) : W.cell? ⟨b, 0, none⟩ = some a0 ∧ W.cell? ⟨b, 1, none⟩ = some a1 ∧ W.cell? ⟨b, 2, none⟩ = some a2 :=
  ⟨by rw [cell_of_row _ _ _ _ _ _ h.heap]; rfl, by rw [cell_of_row _ _ _ _ _ _ h.heap]; rfl, by rw [cell_of_row _ _ _ _ _ _ h.heap]; rfl⟩
theorem FourC.act {w W : World} {b p q r o k : Nat} {V U V' U' : DS} {A : Thing} {a0 a1 a2 : Value} (h : FourC w b (.cells #[a0, a1, a2] 31) p q r o k V U V' U' A W) : W.cell? ⟨b, 1, none⟩ = some a1 := by rw [cell_of_row _ _ _ _ _ _ h.heap]; rfl
section
variable {w : World}
set_option maxHeartbeats 6400000 in
theorem acts_long (u : Nat) (hu : u < 18446744073709551616) (la : Option Addr) (ln lc : Nat) (hln : 60 < ln) :
    Calls Try.prog 3 #[.int .u64 (u : Int), .slice la ln lc] w fun e w' => e = .returned (.bool true) ∧ Below w.heap.size w w' := by
  obtain ⟨k, hm⟩ : ∃ k : Nat, k = 1 + u % 64 := ⟨_, rfl⟩
  have e1 : (1 : Int) + (u : Int) % 64 = (k : Int) := by omega
  have hu0 : (0 : Int) ≤ (u : Int) := by omega
  have hu1 : (u : Int) < 18446744073709551616 := by omega
  have m1 : 1 ≤ k := by omega
  have m2 : k ≤ 64 := by omega
  have K0 := Lib.hid fun W E (h : Side w E W) i => (h.make i (fun p => Pd p k ⟨0, []⟩) (fun p => Pd.framed p k _) (R := fun p e => e = .returned (.pointer (some ⟨p, 0, none⟩))) fun T _ => (new_yes m1 m2 T i).mono fun e w' ⟨p, he, hb, T', hn, b, hd, _⟩ => ⟨p, he, hb, T', hn, b, hd, rest_none m1 m2⟩)
  have K3 := Lib.hid fun W E (h : Side w E W) i => (h.make i (fun p => Rq p k ⟨0, []⟩) (fun p => Rq.framed p k _) (R := fun p e => e = .returned (.pointer (some ⟨p, 0, none⟩))) fun T _ => (rq_new m1 m2 T i).mono fun e w' ⟨p, he, hb, T', hn, v, hd, _⟩ => ⟨p, he, hb, T', hn, v, hd⟩)
  have K1 := K0.out w [] (Side.nil w) 1
  have KL := Lib.hid (fun W => lives_any W)
  have tl : decide ((60 : Int) < (ln : Int)) = true := decide_eq_true (by omega)
  clear hm hu hln m1 m2
  go_enter Try.func3, Try.ntmps3
  go_wp2_with fail
  refine K1.mono ?_
  rintro e w1 ⟨p1, rfl, S1⟩
  have K2' := K0.out _ _ S1.out 2
  clear K1 K0 e1 hu0 hu1
  go_wp2_with fail
  refine K2'.mono ?_
  rintro e w2 ⟨p2, rfl, S2⟩
  have K3' := K3.out _ _ S2.out 3
  clear K2' S1
  go_wp2_with fail
  refine K3'.mono ?_
  rintro e w3 ⟨p3, rfl, S3⟩
  have K4' := K3.out _ _ S3.out 4
  clear K3' S2 K3
  go_wp2_with fail
  refine K4'.mono ?_
  rintro e w4 ⟨p4, rfl, S4⟩
  have HB := Lib.hid S4.out.base
  have KL' := KL.out w4
  clear K4' S3 S4 KL
  go_wp2_with fail
  refine KL'.mono ?_
  rintro e w5 ⟨rfl, hb⟩
  have HF := Lib.hid (HB.out.trans (hb.mono HB.out.size))
  clear KL' hb HB
  go_wp2_with fail
  go_ret
  exact ⟨rfl, HF.out⟩

set_option maxHeartbeats 25600000 in
theorem acts_main (u : Nat) (hu : u < 18446744073709551616) (la : Option Addr) (ln lc : Nat) (hA : ActsK w la ln) (hln : ln ≤ 60) :
    Calls Try.prog 3 #[.int .u64 (u : Int), .slice la ln lc] w fun e w' => e = .returned (.bool true) ∧ Below w.heap.size w w' := by
  obtain ⟨k, hm⟩ : ∃ k : Nat, k = 1 + u % 64 := ⟨_, rfl⟩
  have e1 : (1 : Int) + (u : Int) % 64 = (k : Int) := by omega
  have hu0 : (0 : Int) ≤ (u : Int) := by omega
  have hu1 : (u : Int) < 18446744073709551616 := by omega
  have m1 : 1 ≤ k := by omega
  have m2 : k ≤ 64 := by omega
  have K0 := Lib.hid fun W E (h : Side w E W) i => (h.make i (fun p => Pd p k ⟨0, []⟩) (fun p => Pd.framed p k _) (R := fun p e => e = .returned (.pointer (some ⟨p, 0, none⟩))) fun T _ => (new_yes m1 m2 T i).mono fun e w' ⟨p, he, hb, T', hn, b, hd, _⟩ => ⟨p, he, hb, T', hn, b, hd, rest_none m1 m2⟩)
  have K3 := Lib.hid fun W E (h : Side w E W) i => (h.make i (fun p => Rq p k ⟨0, []⟩) (fun p => Rq.framed p k _) (R := fun p e => e = .returned (.pointer (some ⟨p, 0, none⟩))) fun T _ => (rq_new m1 m2 T i).mono fun e w' ⟨p, he, hb, T', hn, v, hd, _⟩ => ⟨p, he, hb, T', hn, v, hd⟩)
  have K1 := K0.out w [] (Side.nil w) 1
  have tl : decide ((60 : Int) < (ln : Int)) = false := decide_eq_false (by omega)
  have HA := Lib.hid hA
  clear hm hu m1 m2 hA
  go_enter Try.func3, Try.ntmps3
  go_wp2_with fail
  refine K1.mono ?_
  rintro e w1 ⟨p1, rfl, S1⟩
  have K2' := K0.out _ _ S1.out 2
  clear K1 K0 e1 hu0 hu1
  go_wp2_with fail
  refine K2'.mono ?_
  rintro e w2 ⟨p2, rfl, S2⟩
  have K3' := K3.out _ _ S2.out 3
  clear K2' S1
  go_wp2_with fail
  refine K3'.mono ?_
  rintro e w3 ⟨p3, rfl, S3⟩
  have K4' := K3.out _ _ S3.out 4
  clear K3' S2 K3
  go_wp2_with fail
  refine K4'.mono ?_
  rintro e w4 ⟨p4, rfl, S4⟩
  have HI : Hid (ActI w p1 p2 p3 p4 k w4) := Lib.hid ⟨⟨0, []⟩, ⟨0, []⟩, 1, 2, 3, 4, by decide, S4.out.sub (fun x hx => by simp at hx ⊢; rcases hx with rfl | rfl | rfl | rfl <;> simp)⟩
  clear K4' S3 S4
  go_wp2_with fail
  clear tl
  go_loopw [6, 7, 8, 9, 40] (fun sh so sr sp c wr => ∃ i p q r o : Nat, c = .int .i64 i ∧ i ≤ ln ∧ sh = .pointer (some ⟨p, 0, none⟩) ∧ so = .pointer (some ⟨q, 0, none⟩) ∧ sr = .pointer (some ⟨r, 0, none⟩) ∧ sp = .pointer (some ⟨o, 0, none⟩) ∧ Hid (ActI w p q r o k wr)) (fun _ _ _ _ c _ => ln - (intOf c).toNat)
  case atStart => exact ⟨0, p1, p2, p3, p4, rfl, Nat.zero_le _, rfl, rfl, rfl, rfl, HI⟩
  case round =>
    clear HI
    obtain ⟨i, p, q, r, o, rfl, hi, rfl, rfl, rfl, rfl, HI⟩ := hrel
    obtain ⟨V0, rfl⟩ : ∃ x, x = wr := ⟨_, rfl⟩
    by_cases hlt : i < ln
    · obtain ⟨ad, rfl, kd, x, z, A⟩ := HA.out i hlt
      obtain ⟨V, U, hF⟩ := HI.out
      obtain ⟨c0, c1, c2⟩ := A.read hF.base
      have hx := A.hx
      have hz := A.hz
      have F1 := Lib.hid (hF.box (.cells #[.int .i64 kd, .int .u64 (x : Int), .int .u64 (z : Int)] 31))
      have HRV := Lib.hid F1.out.rest
      have b0 : (0 : Int) ≤ (i : Int) := by omega
      have b1 : (i : Int) < (ln : Int) := by omega
      clear hF HI A
      by_cases h0 : kd = 0
      · subst h0
        go_wp2_with fail
        clear c0 c1 c2
        go_loopw [13] (fun s wv => ∃ i2 : Nat, s = .int .i64 i2 ∧ i2 ≤ 1 ∧ Hid (∃ V1, Four w V0.heap.size (.cells #[.int .i64 0, .int .u64 (x : Int), .int .u64 (z : Int)] 31) p q r o k V1 U V1 U wv)) (fun s _ => 1 - (intOf s).toNat)
        case atStart => exact ⟨0, rfl, Nat.zero_le _, Lib.hid ⟨V, F1.out⟩⟩
        case round =>
          clear F1
          obtain ⟨i2, rfl, hi2, HV⟩ := hrel
          by_cases hlt2 : i2 < 1
          · obtain ⟨V1, hf⟩ := HV.out
            have d1 := hf.act.2.1
            have hb : (i2 : Int) < 1 := by omega
            have g1 : IntKind.u64.wrap (i2 : Int) = (i2 : Int) := by rw [IntKind.wrap_u64]; omega
            have g2 : IntKind.u64.wrap ((x : Int) + (i2 : Int)) = (((x + i2) % 18446744073709551616 : Nat) : Int) := by rw [IntKind.wrap_u64]; omega
            have g3 : IntKind.i64.wrap ((i2 : Int) + 1) = (i2 : Int) + 1 := by rw [IntKind.wrap_i64]; omega
            have hy : (x + i2) % 18446744073709551616 < 18446744073709551616 := Nat.mod_lt _ (by omega)
            obtain ⟨y, hye⟩ : ∃ y, (x + i2) % 18446744073709551616 = y := ⟨_, rfl⟩
            rw [hye] at g2 hy
            have K1 := f_ins hf hy
            have HR := Lib.hid hf.rest.1
            have HY := Lib.hid hy
            clear hf HV hye hy
            go_wp2_with fail
            refine K1.mono ?_
            rintro e w2 ⟨rfl, A, hA, f2⟩
            have K2 := f_rins f2 HR.out HY.out
            have HA2 := Lib.hid hA
            clear K1 f2 hA d1
            go_wp2_with fail
            refine K2.mono ?_
            rintro e w3 ⟨rfl, A2, hA2, f3⟩
            obtain rfl := ins_one HR.out HY.out HA2.out hA2
            have HN : Hid (∃ V1, Four w V0.heap.size (.cells #[.int .i64 0, .int .u64 (x : Int), .int .u64 (z : Int)] 31) p q r o k V1 U V1 U w3) := Lib.hid ⟨_, f3⟩
            clear K2 f3 hA2 HA2
            go_wp2_with fail
            go_roundw
            case rel => exact ⟨i2 + 1, by go_num, hlt2, HN⟩
            case measure => simp [intOf]; omega
          · obtain ⟨V1, hf⟩ := HV.out
            have hb : ¬ (i2 : Int) < 1 := by omega
            have F := Lib.hid hf
            clear hf HV
            go_wp2_with fail
            have hf := F.out
            have s0 := hf.act.2.2
            have s1 := f_count hf
            have hn50 := hf.rest.1.n50
            obtain ⟨nn, hnn⟩ : ∃ nn : Int, ((V1.n : Nat) : Int) = nn := ⟨_, rfl⟩
            rw [hnn] at s1
            have e1 : IntKind.i64.wrap (nn + 2) = nn + 2 := by rw [IntKind.wrap_i64]; omega
            have e2 : IntKind.u64.wrap (nn + 2) = nn + 2 := by rw [IntKind.wrap_u64]; omega
            have e3 : ¬ nn + 2 = 0 := by omega
            have HNN := Lib.hid hnn
            clear hn50 hnn hf
            go_wp2_with fail
            refine wp_region_mix (fun Y => Y.cell? ⟨V0.heap.size, 2, none⟩ = some (.int .u64 (z : Int)) ∧ Y.cell? ⟨r, 2, none⟩ = some (.int .i64 nn)) 14 [(true, 0), (true, 1), (true, 2), (true, 3), (true, 4), (true, 5), (true, 6), (true, 7), (true, 8), (true, 9), (true, 10), (true, 11), (false, 12), (true, 13)] (by kernel_rfl) (by decide +kernel) rfl (by decide +kernel) ⟨s0, s1⟩ ?_
            iterate 12
              refine wpMix_take (v := ?_) rfl rfl ?_ ?_
              rotate_left
              · (intro W hW; (try dsimp only at hW); go_simp) <;> with_reducible rfl
              simp only [Act.put, List.setIfInBounds_toArray, List.set_cons_zero, List.set_cons_succ]
            refine wpMix_run rfl ?_
            intro K hK
            go_wp2_with fail
            refine (f_alike (F.out.below (below_drew1 _)) _).mono ?_
            rintro e wz ⟨rfl, FA⟩
            have s2 := FA.act.2.2
            have s3 := f_count FA
            rw [HNN.out] at s3
            go_wp2_with fail
            refine hK.out _ _ (fun _ => ⟨s2, s3⟩) ?_
            clear hK K
            iterate 1
              refine wpMix_take (v := ?_) rfl rfl ?_ ?_
              rotate_left
              · (intro W hW; (try dsimp only at hW); go_simp) <;> with_reducible rfl
              simp only [Act.put, List.setIfInBounds_toArray, List.set_cons_zero, List.set_cons_succ]
            refine wpMix_nil ?_
            have HF := actI FA
            clear FA s0 s1 s2 s3 F
            go_wp2_with fail
            go_roundw
            case rel => exact ⟨i + 1, p, q, r, o, by go_num, by omega, rfl, rfl, rfl, rfl, HF⟩
            case measure => simp [intOf]; omega
      by_cases h1 : kd = 1
      · subst h1
        clear h0
        obtain ⟨c20, hc20⟩ : ∃ c : Nat, 1 + z % 20 = c := ⟨_, rfl⟩
        have e20 : IntKind.i64.wrap ((z : Int) % 20) = (z : Int) % 20 := by rw [IntKind.wrap_i64]; omega
        have e21 : IntKind.i64.wrap (1 + (z : Int) % 20) = (c20 : Int) := by rw [IntKind.wrap_i64]; omega
        have e22 : (z : Int).tmod 20 = (z : Int) % 20 := by rw [Int.tmod_eq_emod_of_nonneg (by omega)]
        have e23 : 1 + (z : Int) % 20 = (c20 : Int) := by omega
        have hc21 : c20 ≤ 20 := by omega
        have zz := F1.out.act.2.2
        clear hc20
        go_wp2_with fail
        clear c0 c1 c2 zz e20 e21 e22 e23
        go_loopw [13] (fun s wv => ∃ i2 : Nat, s = .int .i64 i2 ∧ i2 ≤ c20 ∧ Hid (∃ V1, Four w V0.heap.size (.cells #[.int .i64 1, .int .u64 (x : Int), .int .u64 (z : Int)] 31) p q r o k V1 U V1 U wv)) (fun s _ => c20 - (intOf s).toNat)
        case atStart => exact ⟨0, rfl, Nat.zero_le _, Lib.hid ⟨V, F1.out⟩⟩
        case round =>
          clear F1
          obtain ⟨i2, rfl, hi2, HV⟩ := hrel
          by_cases hlt2 : i2 < c20
          · obtain ⟨V1, hf⟩ := HV.out
            have d1 := hf.act.2.1
            have hb : (i2 : Int) < (c20 : Int) := by omega
            have g1 : IntKind.u64.wrap (i2 : Int) = (i2 : Int) := by rw [IntKind.wrap_u64]; omega
            have g2 : IntKind.u64.wrap ((x : Int) + (i2 : Int)) = (((x + i2) % 18446744073709551616 : Nat) : Int) := by rw [IntKind.wrap_u64]; omega
            have g3 : IntKind.i64.wrap ((i2 : Int) + 1) = (i2 : Int) + 1 := by rw [IntKind.wrap_i64]; omega
            have hy : (x + i2) % 18446744073709551616 < 18446744073709551616 := Nat.mod_lt _ (by omega)
            obtain ⟨y, hye⟩ : ∃ y, (x + i2) % 18446744073709551616 = y := ⟨_, rfl⟩
            rw [hye] at g2 hy
            have K1 := f_ins hf hy
            have HR := Lib.hid hf.rest.1
            have HY := Lib.hid hy
            clear hf HV hye hy
            go_wp2_with fail
            refine K1.mono ?_
            rintro e w2 ⟨rfl, A, hA, f2⟩
            have K2 := f_rins f2 HR.out HY.out
            have HA2 := Lib.hid hA
            clear K1 f2 hA d1
            go_wp2_with fail
            refine K2.mono ?_
            rintro e w3 ⟨rfl, A2, hA2, f3⟩
            obtain rfl := ins_one HR.out HY.out HA2.out hA2
            have HN : Hid (∃ V1, Four w V0.heap.size (.cells #[.int .i64 1, .int .u64 (x : Int), .int .u64 (z : Int)] 31) p q r o k V1 U V1 U w3) := Lib.hid ⟨_, f3⟩
            clear K2 f3 hA2 HA2
            go_wp2_with fail
            go_roundw
            case rel => exact ⟨i2 + 1, by go_num, hlt2, HN⟩
            case measure => simp [intOf]; omega
          · obtain ⟨V1, hf⟩ := HV.out
            have hb : ¬ (i2 : Int) < (c20 : Int) := by omega
            have F := Lib.hid hf
            clear hf HV
            go_wp2_with fail
            have hf := F.out
            have s0 := hf.act.2.2
            have s1 := f_count hf
            have hn50 := hf.rest.1.n50
            obtain ⟨nn, hnn⟩ : ∃ nn : Int, ((V1.n : Nat) : Int) = nn := ⟨_, rfl⟩
            rw [hnn] at s1
            have e1 : IntKind.i64.wrap (nn + 2) = nn + 2 := by rw [IntKind.wrap_i64]; omega
            have e2 : IntKind.u64.wrap (nn + 2) = nn + 2 := by rw [IntKind.wrap_u64]; omega
            have e3 : ¬ nn + 2 = 0 := by omega
            have HNN := Lib.hid hnn
            clear hn50 hnn hf
            go_wp2_with fail
            refine wp_region_mix (fun Y => Y.cell? ⟨V0.heap.size, 2, none⟩ = some (.int .u64 (z : Int)) ∧ Y.cell? ⟨r, 2, none⟩ = some (.int .i64 nn)) 14 [(true, 0), (true, 1), (true, 2), (true, 3), (true, 4), (true, 5), (true, 6), (true, 7), (true, 8), (true, 9), (true, 10), (true, 11), (false, 12), (true, 13)] (by kernel_rfl) (by decide +kernel) rfl (by decide +kernel) ⟨s0, s1⟩ ?_
            iterate 12
              refine wpMix_take (v := ?_) rfl rfl ?_ ?_
              rotate_left
              · (intro W hW; (try dsimp only at hW); go_simp) <;> with_reducible rfl
              simp only [Act.put, List.setIfInBounds_toArray, List.set_cons_zero, List.set_cons_succ]
            refine wpMix_run rfl ?_
            intro K hK
            go_wp2_with fail
            refine (f_alike (F.out.below (below_drew1 _)) _).mono ?_
            rintro e wz ⟨rfl, FA⟩
            have s2 := FA.act.2.2
            have s3 := f_count FA
            rw [HNN.out] at s3
            go_wp2_with fail
            refine hK.out _ _ (fun _ => ⟨s2, s3⟩) ?_
            clear hK K
            iterate 1
              refine wpMix_take (v := ?_) rfl rfl ?_ ?_
              rotate_left
              · (intro W hW; (try dsimp only at hW); go_simp) <;> with_reducible rfl
              simp only [Act.put, List.setIfInBounds_toArray, List.set_cons_zero, List.set_cons_succ]
            refine wpMix_nil ?_
            have HF := actI FA
            clear FA s0 s1 s2 s3 F
            go_wp2_with fail
            go_roundw
            case rel => exact ⟨i + 1, p, q, r, o, by go_num, by omega, rfl, rfl, rfl, rfl, HF⟩
            case measure => simp [intOf]; omega
      by_cases h2 : kd = 2
      · subst h2
        clear h0 h1
        have K1 := f_merge F1.out
        clear F1
        go_wp2_with fail
        refine K1.mono ?_
        rintro e w2 ⟨c, A, rfl, hA, f2⟩
        have K2 := f_rmerge f2 HRV.out.1 HRV.out.2
        have HM := Lib.hid hA
        clear K1 f2 hA c0 c1 c2
        go_wp2_with fail
        refine K2.mono ?_
        rintro e w3 ⟨c', A2, rfl, hA2, f3⟩
        obtain ⟨rfl, rfl⟩ := mrg_one HRV.out.1 HRV.out.2 HM.out hA2
        have F := Lib.hid f3
        have tne : (c' != c') = false := by simp
        clear K2 f3 hA2 HM
        go_wp2_with fail
        have hf := F.out
        have s0 := hf.act.2.2
        have s1 := f_count hf
        have hn50 := hf.rest.1.n50
        obtain ⟨nn, hnn⟩ : ∃ nn : Int, ((A2.n : Nat) : Int) = nn := ⟨_, rfl⟩
        rw [hnn] at s1
        have e1 : IntKind.i64.wrap (nn + 2) = nn + 2 := by rw [IntKind.wrap_i64]; omega
        have e2 : IntKind.u64.wrap (nn + 2) = nn + 2 := by rw [IntKind.wrap_u64]; omega
        have e3 : ¬ nn + 2 = 0 := by omega
        have HNN := Lib.hid hnn
        clear hn50 hnn hf
        go_wp2_with fail
        refine wp_region_mix (fun Y => Y.cell? ⟨V0.heap.size, 2, none⟩ = some (.int .u64 (z : Int)) ∧ Y.cell? ⟨r, 2, none⟩ = some (.int .i64 nn)) 14 [(true, 0), (true, 1), (true, 2), (true, 3), (true, 4), (true, 5), (true, 6), (true, 7), (true, 8), (true, 9), (true, 10), (true, 11), (false, 12), (true, 13)] (by kernel_rfl) (by decide +kernel) rfl (by decide +kernel) ⟨s0, s1⟩ ?_
        iterate 12
          refine wpMix_take (v := ?_) rfl rfl ?_ ?_
          rotate_left
          · (intro W hW; (try dsimp only at hW); go_simp) <;> with_reducible rfl
          simp only [Act.put, List.setIfInBounds_toArray, List.set_cons_zero, List.set_cons_succ]
        refine wpMix_run rfl ?_
        intro K hK
        go_wp2_with fail
        refine (f_alike (F.out.below (below_drew1 _)) _).mono ?_
        rintro e wz ⟨rfl, FA⟩
        have s2 := FA.act.2.2
        have s3 := f_count FA
        rw [HNN.out] at s3
        go_wp2_with fail
        refine hK.out _ _ (fun _ => ⟨s2, s3⟩) ?_
        clear hK K
        iterate 1
          refine wpMix_take (v := ?_) rfl rfl ?_ ?_
          rotate_left
          · (intro W hW; (try dsimp only at hW); go_simp) <;> with_reducible rfl
          simp only [Act.put, List.setIfInBounds_toArray, List.set_cons_zero, List.set_cons_succ]
        refine wpMix_nil ?_
        have HF := actI FA
        clear FA s0 s1 s2 s3 F
        go_wp2_with fail
        go_roundw
        case rel => exact ⟨i + 1, p, q, r, o, by go_num, by omega, rfl, rfl, rfl, rfl, HF⟩
        case measure => simp [intOf]; omega
      by_cases h3 : kd = 3
      · subst h3
        clear h0 h1 h2
        have K1 := f_self F1.out
        clear F1
        go_wp2_with fail
        refine K1.mono ?_
        rintro e w2 ⟨c, A, rfl, hA, f2⟩
        have K2 := f_rcopy f2 HRV.out.1
        have HM := Lib.hid hA
        clear K1 f2 hA c0 c1 c2
        go_wp2_with fail
        refine K2.mono ?_
        rintro e w3 ⟨x', rfl, f3⟩
        have K3 := f_rmerge_copy f3 HRV.out.1
        clear K2 f3
        go_wp2_with fail
        refine K3.mono ?_
        rintro e w4 ⟨c', A2, rfl, hA2, f4⟩
        obtain ⟨rfl, rfl⟩ := mrg_one HRV.out.1 HRV.out.1 HM.out hA2
        have F := Lib.hid f4
        have tne : (c' != c') = false := by simp
        clear K3 f4 hA2 HM
        go_wp2_with fail
        have hf := F.out
        have s0 := hf.act.2.2
        have s1 := f_count hf
        have hn50 := hf.rest.1.n50
        obtain ⟨nn, hnn⟩ : ∃ nn : Int, ((A2.n : Nat) : Int) = nn := ⟨_, rfl⟩
        rw [hnn] at s1
        have e1 : IntKind.i64.wrap (nn + 2) = nn + 2 := by rw [IntKind.wrap_i64]; omega
        have e2 : IntKind.u64.wrap (nn + 2) = nn + 2 := by rw [IntKind.wrap_u64]; omega
        have e3 : ¬ nn + 2 = 0 := by omega
        have HNN := Lib.hid hnn
        clear hn50 hnn hf
        go_wp2_with fail
        refine wp_region_mix (fun Y => Y.cell? ⟨V0.heap.size, 2, none⟩ = some (.int .u64 (z : Int)) ∧ Y.cell? ⟨r, 2, none⟩ = some (.int .i64 nn)) 14 [(true, 0), (true, 1), (true, 2), (true, 3), (true, 4), (true, 5), (true, 6), (true, 7), (true, 8), (true, 9), (true, 10), (true, 11), (false, 12), (true, 13)] (by kernel_rfl) (by decide +kernel) rfl (by decide +kernel) ⟨s0, s1⟩ ?_
        iterate 12
          refine wpMix_take (v := ?_) rfl rfl ?_ ?_
          rotate_left
          · (intro W hW; (try dsimp only at hW); go_simp) <;> with_reducible rfl
          simp only [Act.put, List.setIfInBounds_toArray, List.set_cons_zero, List.set_cons_succ]
        refine wpMix_run rfl ?_
        intro K hK
        go_wp2_with fail
        refine (f_alike (F.out.below (below_drew1 _)) _).mono ?_
        rintro e wz ⟨rfl, FA⟩
        have s2 := FA.act.2.2
        have s3 := f_count FA
        rw [HNN.out] at s3
        go_wp2_with fail
        refine hK.out _ _ (fun _ => ⟨s2, s3⟩) ?_
        clear hK K
        iterate 1
          refine wpMix_take (v := ?_) rfl rfl ?_ ?_
          rotate_left
          · (intro W hW; (try dsimp only at hW); go_simp) <;> with_reducible rfl
          simp only [Act.put, List.setIfInBounds_toArray, List.set_cons_zero, List.set_cons_succ]
        refine wpMix_nil ?_
        have HF := actI FA
        clear FA s0 s1 s2 s3 F
        go_wp2_with fail
        go_roundw
        case rel => exact ⟨i + 1, p, q, r, o, by go_num, by omega, rfl, rfl, rfl, rfl, HF⟩
        case measure => simp [intOf]; omega
      by_cases h4 : kd = 4
      · subst h4
        clear h0 h1 h2 h3
        have F := Lib.hid F1.out.swap
        clear F1
        go_wp2_with fail
        have hf := F.out
        have s0 := hf.act.2.2
        have s1 := f_count hf
        have hn50 := hf.rest.1.n50
        obtain ⟨nn, hnn⟩ : ∃ nn : Int, ((U.n : Nat) : Int) = nn := ⟨_, rfl⟩
        rw [hnn] at s1
        have e1 : IntKind.i64.wrap (nn + 2) = nn + 2 := by rw [IntKind.wrap_i64]; omega
        have e2 : IntKind.u64.wrap (nn + 2) = nn + 2 := by rw [IntKind.wrap_u64]; omega
        have e3 : ¬ nn + 2 = 0 := by omega
        have HNN := Lib.hid hnn
        clear hn50 hnn hf
        go_wp2_with fail
        refine wp_region_mix (fun Y => Y.cell? ⟨V0.heap.size, 2, none⟩ = some (.int .u64 (z : Int)) ∧ Y.cell? ⟨o, 2, none⟩ = some (.int .i64 nn)) 14 [(true, 0), (true, 1), (true, 2), (true, 3), (true, 4), (true, 5), (true, 6), (true, 7), (true, 8), (true, 9), (true, 10), (true, 11), (false, 12), (true, 13)] (by kernel_rfl) (by decide +kernel) rfl (by decide +kernel) ⟨s0, s1⟩ ?_
        iterate 12
          refine wpMix_take (v := ?_) rfl rfl ?_ ?_
          rotate_left
          · (intro W hW; (try dsimp only at hW); go_simp) <;> with_reducible rfl
          simp only [Act.put, List.setIfInBounds_toArray, List.set_cons_zero, List.set_cons_succ]
        refine wpMix_run rfl ?_
        intro K hK
        go_wp2_with fail
        refine (f_alike (F.out.below (below_drew1 _)) _).mono ?_
        rintro e wz ⟨rfl, FA⟩
        have s2 := FA.act.2.2
        have s3 := f_count FA
        rw [HNN.out] at s3
        go_wp2_with fail
        refine hK.out _ _ (fun _ => ⟨s2, s3⟩) ?_
        clear hK K
        iterate 1
          refine wpMix_take (v := ?_) rfl rfl ?_ ?_
          rotate_left
          · (intro W hW; (try dsimp only at hW); go_simp) <;> with_reducible rfl
          simp only [Act.put, List.setIfInBounds_toArray, List.set_cons_zero, List.set_cons_succ]
        refine wpMix_nil ?_
        have HF := actI FA
        clear FA s0 s1 s2 s3 F
        go_wp2_with fail
        go_roundw
        case rel => exact ⟨i + 1, q, p, o, r, by go_num, by omega, rfl, rfl, rfl, rfl, HF⟩
        case measure => simp [intOf]; omega
      by_cases h5 : kd = 5
      · subst h5
        clear h0 h1 h2 h3 h4
        have K1 := f_copy F1.out
        clear F1
        go_wp2_with fail
        refine K1.mono ?_
        rintro e w2 ⟨x', rfl, f2⟩
        have d1 := f2.act
        have K2 := f_ins_old f2 hx
        clear K1 f2 c0 c1 c2
        go_wp2_with fail
        refine K2.mono ?_
        rintro e w3 ⟨rfl, f3⟩
        have F := Lib.hid f3
        clear K2 f3 d1
        go_wp2_with fail
        have hf := F.out
        have s0 := hf.act.2.2
        have s1 := f_count hf
        have hn50 := hf.rest.1.n50
        obtain ⟨nn, hnn⟩ : ∃ nn : Int, ((V.n : Nat) : Int) = nn := ⟨_, rfl⟩
        rw [hnn] at s1
        have e1 : IntKind.i64.wrap (nn + 2) = nn + 2 := by rw [IntKind.wrap_i64]; omega
        have e2 : IntKind.u64.wrap (nn + 2) = nn + 2 := by rw [IntKind.wrap_u64]; omega
        have e3 : ¬ nn + 2 = 0 := by omega
        have HNN := Lib.hid hnn
        clear hn50 hnn hf
        go_wp2_with fail
        refine wp_region_mix (fun Y => Y.cell? ⟨V0.heap.size, 2, none⟩ = some (.int .u64 (z : Int)) ∧ Y.cell? ⟨r, 2, none⟩ = some (.int .i64 nn)) 14 [(true, 0), (true, 1), (true, 2), (true, 3), (true, 4), (true, 5), (true, 6), (true, 7), (true, 8), (true, 9), (true, 10), (true, 11), (false, 12), (true, 13)] (by kernel_rfl) (by decide +kernel) rfl (by decide +kernel) ⟨s0, s1⟩ ?_
        iterate 12
          refine wpMix_take (v := ?_) rfl rfl ?_ ?_
          rotate_left
          · (intro W hW; (try dsimp only at hW); go_simp) <;> with_reducible rfl
          simp only [Act.put, List.setIfInBounds_toArray, List.set_cons_zero, List.set_cons_succ]
        refine wpMix_run rfl ?_
        intro K hK
        go_wp2_with fail
        refine (f_alike (F.out.below (below_drew1 _)) _).mono ?_
        rintro e wz ⟨rfl, FA⟩
        have s2 := FA.act.2.2
        have s3 := f_count FA
        rw [HNN.out] at s3
        go_wp2_with fail
        refine hK.out _ _ (fun _ => ⟨s2, s3⟩) ?_
        clear hK K
        iterate 1
          refine wpMix_take (v := ?_) rfl rfl ?_ ?_
          rotate_left
          · (intro W hW; (try dsimp only at hW); go_simp) <;> with_reducible rfl
          simp only [Act.put, List.setIfInBounds_toArray, List.set_cons_zero, List.set_cons_succ]
        refine wpMix_nil ?_
        have HF := actI FA
        clear FA s0 s1 s2 s3 F
        go_wp2_with fail
        go_roundw
        case rel => exact ⟨i + 1, x', q, r, o, by go_num, by omega, rfl, rfl, rfl, rfl, HF⟩
        case measure => simp [intOf]; omega
      have t0 : (kd == 0) = false := by simpa using h0
      have t1 : (kd == 1) = false := by simpa using h1
      have t2 : (kd == 2) = false := by simpa using h2
      have t3 : (kd == 3) = false := by simpa using h3
      have t4 : (kd == 4) = false := by simpa using h4
      have t5 : (kd == 5) = false := by simpa using h5
      have F := Lib.hid F1.out
      clear h0 h1 h2 h3 h4 h5 F1
      go_wp2_with fail
      have hf := F.out
      have s0 := hf.act.2.2
      have s1 := f_count hf
      have hn50 := hf.rest.1.n50
      obtain ⟨nn, hnn⟩ : ∃ nn : Int, ((V.n : Nat) : Int) = nn := ⟨_, rfl⟩
      rw [hnn] at s1
      have e1 : IntKind.i64.wrap (nn + 2) = nn + 2 := by rw [IntKind.wrap_i64]; omega
      have e2 : IntKind.u64.wrap (nn + 2) = nn + 2 := by rw [IntKind.wrap_u64]; omega
      have e3 : ¬ nn + 2 = 0 := by omega
      have HNN := Lib.hid hnn
      clear hn50 hnn hf
      go_wp2_with fail
      refine wp_region_mix (fun Y => Y.cell? ⟨V0.heap.size, 2, none⟩ = some (.int .u64 (z : Int)) ∧ Y.cell? ⟨r, 2, none⟩ = some (.int .i64 nn)) 14 [(true, 0), (true, 1), (true, 2), (true, 3), (true, 4), (true, 5), (true, 6), (true, 7), (true, 8), (true, 9), (true, 10), (true, 11), (false, 12), (true, 13)] (by kernel_rfl) (by decide +kernel) rfl (by decide +kernel) ⟨s0, s1⟩ ?_
      iterate 12
        refine wpMix_take (v := ?_) rfl rfl ?_ ?_
        rotate_left
        · (intro W hW; (try dsimp only at hW); go_simp) <;> with_reducible rfl
        simp only [Act.put, List.setIfInBounds_toArray, List.set_cons_zero, List.set_cons_succ]
      refine wpMix_run rfl ?_
      intro K hK
      go_wp2_with fail
      refine (f_alike (F.out.below (below_drew1 _)) _).mono ?_
      rintro e wz ⟨rfl, FA⟩
      have s2 := FA.act.2.2
      have s3 := f_count FA
      rw [HNN.out] at s3
      go_wp2_with fail
      refine hK.out _ _ (fun _ => ⟨s2, s3⟩) ?_
      clear hK K
      iterate 1
        refine wpMix_take (v := ?_) rfl rfl ?_ ?_
        rotate_left
        · (intro W hW; (try dsimp only at hW); go_simp) <;> with_reducible rfl
        simp only [Act.put, List.setIfInBounds_toArray, List.set_cons_zero, List.set_cons_succ]
      refine wpMix_nil ?_
      have HF := actI FA
      clear FA s0 s1 s2 s3 F
      go_wp2_with fail
      go_roundw
      case rel => exact ⟨i + 1, p, q, r, o, by go_num, by omega, rfl, rfl, rfl, rfl, HF⟩
      case measure => simp [intOf]; omega
    · obtain ⟨V, U, hF⟩ := HI.out
      have K1 := hF.alike 1
      have KL := Lib.hid (fun W => lives_any W)
      have hnl : ¬ (i : Int) < (ln : Int) := by omega
      clear HI hF HA
      go_wp2_with fail
      refine K1.mono ?_
      rintro e w2 ⟨rfl, hb⟩
      have HB := Lib.hid hb
      have K2 := KL.out w2
      clear K1 KL hb
      go_wp2_with fail
      refine K2.mono ?_
      rintro e w3 ⟨rfl, hb⟩
      have HF := Lib.hid (HB.out.trans (hb.mono HB.out.size))
      clear K2 hb HB
      go_wp2_with fail
      go_ret
      exact ⟨rfl, HF.out⟩

theorem acts_walk (u : Nat) (hu : u < 18446744073709551616) (la : Option Addr) (ln lc : Nat) (hA : ActsK w la ln) :
    Calls Try.prog 3 #[.int .u64 (u : Int), .slice la ln lc] w fun e w' => e = .returned (.bool true) ∧ Below w.heap.size w w' := by
  by_cases h : 60 < ln
  · exact acts_long u hu la ln lc h
  · exact acts_main u hu la ln lc hA (by omega)
end
end Go.Proofs.Ytahaoodklfmddaa
