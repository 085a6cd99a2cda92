/- Contract of digest's liftAll: the levels gone through once. Conditions: a digest that was made, of at most 100000 nodes. -/
import Derived.Test.YtahaoodklfmddaaDigLiftA
import Derived.WalkMore
import Derived.Deep.LoopGhost
set_option maxRecDepth 100000
namespace Go.Proofs.Ytahaoodklfmddaa
open Go.RowKit Go.Maps Go.Sort Go.Shelf

/-- what liftAll leaves -/
def AllP (T : Tags) (i : Nat) (w : World) (p k n : Nat) (most : Int) (L : DL) (e : Ending) (w' : World) : Prop :=
  ∃ (L' : DL) (ch : Bool), e = .returned (.bool ch) ∧ OuterL most 0 L false 0 L' ch ∧ LInv n L' ∧ Goes T i w (Dl p k n L') w'

/-- tags that are nobody's from a world's end on -/
theorem DkAt.rebase {T : Tags} {i : Nat} {w : World} {p k b : Nat} {n : Int} {L : DL} (h : DkAt T i w p k n b L) : DkAt (fun x => if x < w.heap.size then T x else none) i w p k n b L :=
  ⟨h.head, by rw [if_pos (lt_of_heap h.head)]; exact h.tp, h.map, by rw [if_pos h.map.lt]; exact h.tb⟩

set_option maxHeartbeats 8000000 in
theorem liftAll_at {T : Tags} {i : Nat} {w : World} {p k n : Nat} {most : Int} {L : DL} (h : Dl p k n L T i w) (hL : LInv n L) (hn : n ≤ 1125899906842624) :
    Calls Try.prog 44 #[.pointer (some ⟨p, 0, none⟩), .int .i64 most] w (AllP T i w p k n most L) := by
  have S0 := Lib.hid (And.intro (Goes.start h) hL)
  clear h hL
  go_enter Try.func44, Try.ntmps44
  go_wp2_with fail
  go_step3
  go_wp2_with fail
  go_step3
  go_wp2_with fail
  go_loopg [5, 6, 10] 64 (fun kx sc ss sl wr => ∃ (L1 : DL) (ch : Bool) (st lv : Nat), sc = .bool ch ∧ ss = .int .i64 st ∧ sl = .int .i64 lv ∧ lv ≤ 64 ∧ 64 - lv ≤ kx ∧ st ≤ lv * 100000 ∧ Hid (Goes T i w (Dl p k n L1) wr ∧ LInv n L1) ∧ Hid (∀ L2 ch2, OuterL most lv L1 ch st L2 ch2 → OuterL most 0 L false 0 L2 ch2))
  case atStart => exact ⟨L, false, 0, 0, rfl, rfl, rfl, by omega, by omega, by omega, S0, fun _ _ h => h⟩
  case round =>
    clear S0
    obtain ⟨L1, ch, st, lv, rfl, rfl, rfl, hlv, hkx, hst, HS, HO⟩ := hrel
    by_cases hl64 : lv < 64
    · have hlz : (lv : Int) < 64 := by omega
      have hx := HS.out
      obtain ⟨⟨T1, n1, e1, b, hd⟩, hI⟩ := hx
      have KP := prefixes_at (lv : Int) hd.cells.2.2.1 hd.map (by have := hI.len; omega)
      have HD := Lib.hid (And.intro n1 (And.intro e1 hd.rebase))
      have HI := Lib.hid hI
      clear hd hI n1 e1 hlv
      go_wp2_with fail
      refine KP.mono ?_
      rintro e w3 ⟨xs, us, hxs, hnd, hperm, hb3, hcase⟩
      clear KP
      have HU := Lib.hid (And.intro hxs (And.intro hnd hperm))
      have hul : us.length ≤ 100000 := by
        have h1 := HU.out.2.2.length_eq
        have h2 := preL_len (lv : Int) xs
        have h3 := nodup_len xs L1 HU.out.2.1 (fun p hp => (HU.out.1 p).1 hp)
        have h4 := HI.out.len
        omega
      have HP := Lib.hid (pend_start HI.out HU.out.1 HU.out.2.2)
      obtain ⟨T2, hT2⟩ : ∃ T2 : Tags, T2 = fun x => if x < wr.heap.size then T1 x else none := ⟨_, rfl⟩
      have G0 : Goes T2 i w3 (Dl p k n L1) w3 := by
        refine Goes.start (Framed.below (Dl.framed p k n L1) ⟨b, ?_⟩ hb3)
        rw [hT2]
        exact HD.out.2.2
      have HT2 : Hid (∀ x, wr.heap.size ≤ x → T2 x ≠ some i) := Lib.hid fun x hx e => by
        rw [hT2] at e
        simp only at e
        rw [if_neg (by omega)] at e
        cases e
      have HCH : Hid (∀ (A : Thing) (wz : World), Goes T2 i w3 A wz → Goes T i w A wz) := Lib.hid fun A wz hz => by
        refine Goes.after (T1 := T2) (fun x hx => ?_) (HD.out.2.1.low hb3) hz
        rw [hT2]
        simp only
        rw [if_pos (Nat.lt_of_lt_of_le hx HD.out.2.1.size)]
        exact HD.out.1 x hx
      obtain ⟨ao, cp, rfl, hrow⟩ : ∃ ao cp, e = .returned (.slice ao us.length cp) ∧ (us = [] ∨ ∃ g, ao = some ⟨g, 0, none⟩ ∧ us.length ≤ cp ∧ wr.heap.size ≤ g ∧ g < w3.heap.size ∧ RowU w3 g us) := by
        rcases hcase with ⟨h1, h2⟩ | ⟨g, cp, h1, h2, h3, h4, h5⟩
        · exact ⟨none, 0, by rw [h2, h1]; rfl, .inl h1⟩
        · exact ⟨_, cp, h1, .inr ⟨g, rfl, h2, h3, h4, h5⟩⟩
      have HROW := Lib.hid hrow
      have S1 := Lib.hid (And.intro G0 (And.intro HI.out HP.out))
      clear hT2 G0 hcase hrow hb3 hxs hnd hperm HP HD
      go_wp2_with fail
      go_loopg [5, 6, 17] us.length (fun kx sc ss sj wv => ∃ (L2 : DL) (ch2 : Bool) (st2 j : Nat), sc = .bool ch2 ∧ ss = .int .i64 st2 ∧ sj = .int .i64 j ∧ j ≤ us.length ∧ us.length - j ≤ kx ∧ st2 ≤ lv * 100000 + j ∧ Hid (Goes T2 i w3 (Dl p k n L2) wv ∧ LInv n L2 ∧ Pend L2 lv (us.drop j)) ∧ Hid (innerL most lv (us.drop j) L2 ch2 st2 = innerL most lv us L1 ch st))
      case atStart => exact ⟨L1, ch, st, 0, rfl, rfl, rfl, Nat.zero_le _, Nat.sub_le _ _, Nat.le_trans hst (Nat.le_add_right _ _), Lib.hid ⟨S1.out.1, S1.out.2.1, by rw [List.drop_zero]; exact S1.out.2.2⟩, Lib.hid (by rw [List.drop_zero])⟩
      case round =>
        clear S1
        obtain ⟨L2, ch2, st2, j, rfl, rfl, rfl, hj, hkj, hst2, HS2, HE⟩ := hrel
        by_cases hjl : j < us.length
        · have hjz : (j : Int) < (us.length : Int) := by omega
          rcases HROW.out with h0 | ⟨g, rfl, hcp, hg1, hg2, hR⟩
          · exfalso
            rw [h0] at hjl
            exact absurd hjl (Nat.not_lt_zero _)
          obtain ⟨u, hu⟩ : ∃ u, us[j] = u := ⟨_, rfl⟩
          have hdr : us.drop j = u :: us.drop (j + 1) := by rw [List.drop_eq_getElem_cons hjl, hu]
          obtain ⟨⟨T3, n3, e3, b3, hd3⟩, hI2, hP2⟩ := HS2.out
          rw [hdr] at hP2
          have hum := hP2 u (List.mem_cons_self ..)
          have hcell : wr.cell? ⟨g, j, none⟩ = some (.int .u64 (u.toNat : Int)) := by
            have h1 := (hR j hjl).1
            rw [show us[j]! = u by rw [getElem!_pos us j hjl, hu]] at h1
            rw [World.cell?_of_block (e3.block g hg2 (HT2.out g hg1))]
            exact h1
          obtain ⟨uz, huz⟩ : ∃ uz : Int, (u.toNat : Int) = uz := ⟨_, rfl⟩
          have ekv : kV (cd lv u.toNat) = .agg #[.int .i64 lv, .int .u64 uz] := by rw [kV_cd, huz]
          have hsum := hI2.sums hn (cd lv u.toNat)
          have K := lift_at (most := most) hd3 (kin_of_low hum.1) (by rw [low_cd]; omega) hsum.1 hsum.2 (by have := hI2.len; unfold maxLen; omega)
          rw [ekv] at K
          rw [huz] at hcell
          have H3 := Lib.hid (And.intro n3 e3)
          have HP2 := Lib.hid hP2
          have HI2 := Lib.hid hI2
          have HDR := Lib.hid hdr
          clear hd3 hI2 hP2 hum hsum ekv hu hdr n3 e3 HS2 hR
          go_wp2_with fail
          refine K.mono ?_
          clear K
          rintro e w5 (⟨hm, rfl, hG⟩ | ⟨hm, rfl, hG⟩)
          · have HG5 : Hid (Goes T2 i w3 (Dl p k n L2) w5) := Lib.hid (Goes.after H3.out.1 H3.out.2 hG.out)
            obtain ⟨T5, n5, e5, b5, hd5⟩ := hG.out
            have c5 := hd5.cells.2.2.1
            have l5 := hd5.map.len
            have ws : IntKind.i64.wrap ((st2 : Int) + 1) = (st2 : Int) + 1 := by rw [IntKind.wrap_i64]; omega
            by_cases hq : st2 + 1 = L2.length
            · have hqz : ((st2 : Int) + 1 == (L2.length : Int)) = true := by simp; omega
              have HF : Hid (OuterL most 0 L false 0 L2 ch2) := Lib.hid (HO.out _ _ (.stop hl64 HU.out.1 HU.out.2.1 HU.out.2.2 (st' := st2 + 1) (by
                rw [← HE.out, HDR.out]
                show (if allC L2 (cd lv u.toNat) ≤ most then _ else if st2 + 1 = L2.length then _ else _) = _
                rw [if_neg (by omega), if_pos hq])))
              clear hd5 n5 e5 hm hG hq
              go_wp2_with fail
              refine bodyPost_ret (results_tmp rfl _ _ _) rfl ?_
              exact ⟨L2, ch2, rfl, HF.out, HI2.out, HCH.out _ _ HG5.out⟩
            · have hqz : ((st2 : Int) + 1 == (L2.length : Int)) = false := by simp; omega
              have HN : Hid (innerL most lv (us.drop (j + 1)) L2 ch2 (st2 + 1) = innerL most lv us L1 ch st) := Lib.hid (by
                rw [← HE.out, HDR.out]
                show _ = if allC L2 (cd lv u.toNat) ≤ most then _ else if st2 + 1 = L2.length then _ else _
                rw [if_neg (by omega), if_neg hq])
              have HS3 : Hid (Goes T2 i w3 (Dl p k n L2) w5 ∧ LInv n L2 ∧ Pend L2 lv (us.drop (j + 1))) := Lib.hid ⟨HG5.out, HI2.out, fun v hv => HP2.out v (List.mem_cons_of_mem _ hv)⟩
              clear hd5 n5 e5 hm hG hq HE H3 HP2 HI2 HDR HG5
              go_wp2_with fail
              go_roundg (us.length - (j + 1))
              case measure => omega
              case rel => exact ⟨L2, ch2, st2 + 1, j + 1, rfl, by go_num, by go_num, by omega, by omega, by omega, HS3, HN⟩
          · have HN : Hid (innerL most lv (us.drop (j + 1)) (liftL L2 (cd lv u.toNat)) true st2 = innerL most lv us L1 ch st) := Lib.hid (by
              rw [← HE.out, HDR.out]
              show _ = if allC L2 (cd lv u.toNat) ≤ most then _ else _
              rw [if_pos hm])
            have HS3 : Hid (Goes T2 i w3 (Dl p k n (liftL L2 (cd lv u.toNat))) w5 ∧ LInv n (liftL L2 (cd lv u.toNat)) ∧ Pend (liftL L2 (cd lv u.toNat)) lv (us.drop (j + 1))) :=
              Lib.hid ⟨Goes.after H3.out.1 H3.out.2 hG.out, HI2.out.lift HP2.out hl64 (List.mem_cons_self ..), pend_step (fun v hv => HP2.out v (List.mem_cons_of_mem _ hv)) low_cd⟩
            clear hm hG HE H3 HP2 HI2 HDR
            go_wp2_with fail
            go_roundg (us.length - (j + 1))
            case measure => omega
            case rel => exact ⟨_, true, st2, j + 1, rfl, rfl, by go_num, by omega, by omega, by omega, HS3, HN⟩
        · have hjz : ¬ (j : Int) < (us.length : Int) := by omega
          obtain rfl : j = us.length := by omega
          have HN : Hid (∀ L3 ch3, OuterL most (lv + 1) L2 ch2 st2 L3 ch3 → OuterL most 0 L false 0 L3 ch3) := Lib.hid fun L3 ch3 h3 => HO.out L3 ch3 (.next hl64 HU.out.1 HU.out.2.1 HU.out.2.2 (by rw [← HE.out, List.drop_length]; rfl) h3)
          have HS3 : Hid (Goes T i w (Dl p k n L2) wr ∧ LInv n L2) := Lib.hid ⟨HCH.out _ _ HS2.out.1, HS2.out.2.1⟩
          clear HE HS2
          go_wp2_with fail
          go_roundg (64 - (lv + 1))
          case measure => omega
          case rel => exact ⟨L2, ch2, st2, lv + 1, rfl, rfl, by go_num, by omega, by omega, by omega, HS3, HN⟩
    · have hlz : ¬ (lv : Int) < 64 := by omega
      obtain rfl : lv = 64 := by omega
      go_wp2_with fail
      refine bodyPost_ret (results_tmp rfl _ _ _) rfl ?_
      exact ⟨L1, ch, rfl, HO.out _ _ (.top L1 ch st), HS.out.2, HS.out.1⟩
end Go.Proofs.Ytahaoodklfmddaa
