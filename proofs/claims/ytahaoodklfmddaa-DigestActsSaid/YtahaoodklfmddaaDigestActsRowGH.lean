/- The texts RqFitA DigLiftAll, one behind the other; each one's own comment says what it holds. -/
import Derived.Test.YtahaoodklfmddaaDigestActsRowGE
import Derived.Test.YtahaoodklfmddaaDigestActsRowGD
import Derived.WalkMore
import Derived.Deep.LoopGhost
/- What the document's way of compressing leaves: the same as the program's. Plain mathematics. Conditions: as stated. -/
set_option maxRecDepth 100000
namespace Go.Proofs.Ytahaoodklfmddaa
open Go.RowKit Go.Maps Go.Sort Go.Shelf

/-- the levels from lv on, each one gone over -/
inductive RPass (n : Nat) (most : Int) : Nat → DL → DL → Prop
  | top (L : DL) : RPass n most 64 L L
  | next {lv : Nat} {L L1 L2 : DL} (hl : lv < 64) (hI : LInv n L1) (h : StepR most lv (PU lv (preL lv L)) (dcnt L) (dcnt L1)) (k : RPass n most (lv + 1) L1 L2) : RPass n most lv L L2
/-- all levels gone over till nothing changes -/
inductive RFit (n : Nat) (most : Int) : DL → DL → Prop
  | last {L : DL} (h : RPass n most 0 L L) : RFit n most L L
  | again {L L1 L2 : DL} (hI : LInv n L1) (h : RPass n most 0 L L1) (hm : meas L1 < meas L) (k : RFit n most L1 L2) : RFit n most L L2
theorem preL_mem {lv : Nat} {L : DL} {u : UInt64} (h : u ∈ preL lv L) : ∃ q ∈ L, q.1 = cd lv u.toNat := here_start (fun _ => Iff.rfl) (List.Perm.refl _) u h
theorem pass_none {n : Nat} {most : Int} {lv : Nat} {L B : DL} (h : RPass n most lv L B) : LInv n L → (∀ q ∈ L, q.1 / 18446744073709551616 < lv) → B = L := by
  induction h with
  | top L => intro _ _; rfl
  | next hl hI h k ih =>
    rename_i lv L L1 L2
    intro hL hlow
    have hnil : preL lv L = [] := by
      cases hq : preL (lv : Int) L with
      | nil => rfl
      | cons u r =>
        obtain ⟨q, hq1, e⟩ := preL_mem (lv := lv) (L := L) (u := u) (by rw [hq]; exact List.mem_cons_self ..)
        have := hlow q hq1
        rw [e, low_cd] at this
        omega
    have e1 : L1 = L := dl_ext hI.inv.asc hL.inv.asc hI.inv.pos hL.inv.pos (h.uniq (StepR.start most lv (dcnt L)) fun c => by rw [hnil])
    subst e1
    exact ih hI fun q hq => Nat.lt_succ_of_lt (hlow q hq)
theorem pu_self {L xs : DL} {lv : Nat} {us : List UInt64} (hx : ∀ p, p ∈ xs ↔ p ∈ L) (hp : us.Perm (preL lv xs)) (c : Nat) : PU lv us c ↔ PU lv (preL lv L) c :=
  (pu_level hx hp c).trans (pu_level (L := L) (xs := L) (fun _ => Iff.rfl) (List.Perm.refl _) c).symm
/-- one pass of either side leaves the same -/
theorem outer_pass {n : Nat} {most : Int} {lv st : Nat} {L A : DL} {ch ca : Bool} (h : OuterL most lv L ch st A ca) : LInv n L → Stay most lv (dcnt L) [] L st → ∀ B, RPass n most lv L B → A = B := by
  induction h with
  | top L ch st =>
    intro _ _ B k
    cases k with
    | top => rfl
    | next hl => omega
  | stop hl hx hn hp e =>
    intro hI hZ B k
    have s1 := level_step hI hl hx hn hp hZ e
    cases k with
    | top => omega
    | next _ hI1 h2 k2 =>
      have e3 := dl_ext s1.1.inv.asc hI1.inv.asc s1.1.inv.pos hI1.inv.pos (s1.2.1.uniq h2 (pu_self hx hp))
      rw [pass_none k2 hI1 (by rw [← e3]; exact fun q hq => Nat.lt_succ_of_le (s1.2.2.2 rfl q hq))]
      exact e3
  | next hl hx hn hp e k1 ih =>
    intro hI hZ B k
    have s1 := level_step hI hl hx hn hp hZ e
    cases k with
    | top => omega
    | next _ hI1 h2 k2 =>
      have e3 := dl_ext s1.1.inv.asc hI1.inv.asc s1.1.inv.pos hI1.inv.pos (s1.2.1.uniq h2 (pu_self hx hp))
      subst e3
      exact ih s1.1 (s1.2.2.1 rfl) B k2
/-- either side's way leaves the same -/
theorem fit_pass {n : Nat} {most : Int} {L A : DL} (h : FitL most L A) : LInv n L → ∀ B, RFit n most L B → A = B := by
  induction h with
  | last h =>
    intro hI B k
    cases k with
    | last k => exact outer_pass h hI (stay_none ..) _ k
    | again hI1 k hm _ =>
      exfalso
      have e := outer_pass h hI (stay_none ..) _ k
      have a := (outer_onto h hI).same rfl
      rw [← e, a.2] at hm
      omega
  | again h _ ih =>
    intro hI B k
    cases k with
    | last k =>
      exfalso
      have e := outer_pass h hI (stay_none ..) _ k
      rcases (outer_onto h hI).less rfl with x | x
      · cases x
      · rw [e] at x; omega
    | again hI1 k hm k2 =>
      have e := outer_pass h hI (stay_none ..) _ k
      subst e
      exact ih (outer_onto h hI).inv B k2
/-- what compress leaves of these nodes -/
def RFitR (k n : Nat) (L A : DL) : Prop := (L.length ≤ 3 * k + 64 → A = L) ∧ (3 * k + 64 < L.length → RFit n ((n / k : Nat) : Int) L A)
/-- a pair whose node is gone was lifted -/
theorem StepR.gone {most : Int} {lv : Nat} {us : List UInt64} {f g : Nat → Int} (h : StepR most lv (PU lv us) f g) {c : Nat} (hc : c / 18446744073709551616 = lv) (hf : 1 ≤ f c) (h0 : g c = 0) : PU lv us c ∧ allF f c ≤ most ∧ g (sibC c) = 0 := by
  have hs : sibC c / 18446744073709551616 = lv := by rw [(sib_lev c).1]; exact hc
  by_cases hp : PU lv us c ∧ allF f c ≤ most
  · exact ⟨hp.1, hp.2, (h.yes (sibC c) hs (PU.sib.2 hp.1) (by rw [allF_sib]; exact hp.2)).1⟩
  · have := (h.no c hc hp).1
    omega
/-- gone over once more, nothing changes -/
theorem StepR.again {most : Int} {lv : Nat} {us : List UInt64} {f g : Nat → Int} (h : StepR most lv (PU lv us) f g) {u : UInt64} (hp : PU lv us (cd lv u.toNat)) : StepR most lv (PU lv (us ++ [u])) f g where
  yes c hc hq hf := by
    rcases pu_snoc.1 hq with hq | e | e
    · exact h.yes c hc hq hf
    · subst e; exact h.yes _ hc hp hf
    · exact h.yes c hc (by rw [e] at hp; exact PU.sib.1 hp) hf
  no c hc hn := h.no c hc fun k => hn ⟨pu_snoc.2 (.inl k.1), k.2⟩
  off := h.off
/-- three changes in a row are a lift -/
theorem lift_three {g : DL} (hA : DAsc g) (hp : ∀ q ∈ g, 1 ≤ q.2) {c : Nat} (hc : ∃ q ∈ g, q.1 = c) : putD (upC c) (dcnt (delD (sibC c) (delD c g)) (upC c) + (dcnt g c + dcnt g (sibC c))) (delD (sibC c) (delD c g)) = liftL g c := by
  have a1 := dasc_delD hA c
  have a2 := dasc_delD a1 (sibC c)
  have hu : dcnt (delD (sibC c) (delD c g)) (upC c) = dcnt g (upC c) := by rw [dcnt_delD a1, if_neg (up_ne_sib c), dcnt_delD hA, if_neg (up_ne c)]
  have h1 := dcnt_has hA hp hc
  have h2 := dcnt_nonneg hp (sibC c)
  have h3 := dcnt_nonneg hp (upC c)
  rw [hu]
  refine dl_ext (dasc_putD a2 _ _) (dasc_delD (dasc_delD (dasc_putD hA _ _) _) _) (fun q hq => ?_) (fun q hq => ?_) fun x => ?_
  · rcases putD_sub hq with rfl | hq
    · show 1 ≤ dcnt g (upC c) + (dcnt g c + dcnt g (sibC c)); omega
    · exact hp q (mem_delD.1 (mem_delD.1 hq).1).1
  · rcases putD_sub (mem_delD.1 (mem_delD.1 hq).1).1 with rfl | hq
    · show 1 ≤ allC g c; unfold allC; omega
    · exact hp q hq
  · rw [dcnt_putD a2, dcnt_delD a1, dcnt_delD hA, dcnt_lift hA]
    unfold allC
    by_cases x1 : x = upC c
    · rw [if_pos x1, if_neg (by rw [x1]; exact up_ne_sib c), if_neg (by rw [x1]; exact up_ne c), if_pos x1]
      omega
    · rw [if_neg x1]
      by_cases x2 : x = sibC c
      · rw [if_pos x2, if_pos x2]
      · rw [if_neg x2, if_neg x2]
        by_cases x3 : x = c
        · rw [if_pos x3, if_pos x3]
        · rw [if_neg x3, if_neg x3, if_neg x1]
theorem del_none {g : DL} {c : Nat} (h : ∀ q ∈ g, q.1 ≠ c) : delD c g = g := by
  unfold delD
  exact List.filter_eq_self.2 fun q hq => by simpa using h q hq
end Go.Proofs.Ytahaoodklfmddaa
/- Contract of digest's liftAll: the levels gone through once. Conditions: a digest that was made, of at most 100000 nodes. -/
set_option maxRecDepth 100000
namespace Go.Proofs.Ytahaoodklfmddaa
open Go.RowKit Go.Maps Go.Sort Go.Shelf

/-- what liftAll leaves -/
def AllP (T : Tags) (i : Nat) (w : World) (p k n : Nat) (most : Int) (L : DL) (e : Ending) (w' : World) : Prop :=
  ∃ (L' : DL) (ch : Bool), e = .returned (.bool ch) ∧ OuterL most 0 L false 0 L' ch ∧ LInv n L' ∧ Goes T i w (Dl p k n L') w'

/-- tags that are nobody's from a world's end on -/
theorem DkAt.rebase {T : Tags} {i : Nat} {w : World} {p k b : Nat} {n : Int} {L : DL} (h : DkAt T i w p k n b L) : DkAt (fun x => if x < w.heap.size then T x else none) i w p k n b L :=
  ⟨h.head, by rw [if_pos (lt_of_heap h.head)]; exact h.tp, h.map, by rw [if_pos h.map.lt]; exact h.tb⟩

set_option maxHeartbeats 8000000 in
theorem liftAll_at {T : Tags} {i : Nat} {w : World} {p k n : Nat} {most : Int} {L : DL} (h : Dl p k n L T i w) (hL : LInv n L) (hn : n ≤ 1125899906842624) :
    Calls Try.prog 44 #[.pointer (some ⟨p, 0, none⟩), .int .i64 most] w (AllP T i w p k n most L) := by
  have S0 := Lib.hid (And.intro (Goes.start h) hL)
  clear h hL
  go_enter Try.func44, Try.ntmps44
  go_wp2_with fail
  go_step3
  go_wp2_with fail
  go_step3
  go_wp2_with fail
  go_loopg [5, 6, 10] 64 (fun kx sc ss sl wr => ∃ (L1 : DL) (ch : Bool) (st lv : Nat), sc = .bool ch ∧ ss = .int .i64 st ∧ sl = .int .i64 lv ∧ lv ≤ 64 ∧ 64 - lv ≤ kx ∧ st ≤ lv * 100000 ∧ Hid (Goes T i w (Dl p k n L1) wr ∧ LInv n L1) ∧ Hid (∀ L2 ch2, OuterL most lv L1 ch st L2 ch2 → OuterL most 0 L false 0 L2 ch2))
  case atStart => exact ⟨L, false, 0, 0, rfl, rfl, rfl, by omega, by omega, by omega, S0, fun _ _ h => h⟩
  case round =>
    clear S0
    obtain ⟨L1, ch, st, lv, rfl, rfl, rfl, hlv, hkx, hst, HS, HO⟩ := hrel
    by_cases hl64 : lv < 64
    · have hlz : (lv : Int) < 64 := by omega
      have hx := HS.out
      obtain ⟨⟨T1, n1, e1, b, hd⟩, hI⟩ := hx
      have KP := prefixes_at (lv : Int) hd.cells.2.2.1 hd.map (by have := hI.len; omega)
      have HD := Lib.hid (And.intro n1 (And.intro e1 hd.rebase))
      have HI := Lib.hid hI
      clear hd hI n1 e1 hlv
      go_wp2_with fail
      refine KP.mono ?_
      rintro e w3 ⟨xs, us, hxs, hnd, hperm, hb3, hcase⟩
      clear KP
      have HU := Lib.hid (And.intro hxs (And.intro hnd hperm))
      have hul : us.length ≤ 100000 := by
        have h1 := HU.out.2.2.length_eq
        have h2 := preL_len (lv : Int) xs
        have h3 := nodup_len xs L1 HU.out.2.1 (fun p hp => (HU.out.1 p).1 hp)
        have h4 := HI.out.len
        omega
      have HP := Lib.hid (pend_start HI.out HU.out.1 HU.out.2.2)
      obtain ⟨T2, hT2⟩ : ∃ T2 : Tags, T2 = fun x => if x < wr.heap.size then T1 x else none := ⟨_, rfl⟩
      have G0 : Goes T2 i w3 (Dl p k n L1) w3 := by
        refine Goes.start (Framed.below (Dl.framed p k n L1) ⟨b, ?_⟩ hb3)
        rw [hT2]
        exact HD.out.2.2
      have HT2 : Hid (∀ x, wr.heap.size ≤ x → T2 x ≠ some i) := Lib.hid fun x hx e => by
        rw [hT2] at e
        simp only at e
        rw [if_neg (by omega)] at e
        cases e
      have HCH : Hid (∀ (A : Thing) (wz : World), Goes T2 i w3 A wz → Goes T i w A wz) := Lib.hid fun A wz hz => by
        refine Goes.after (T1 := T2) (fun x hx => ?_) (HD.out.2.1.low hb3) hz
        rw [hT2]
        simp only
        rw [if_pos (Nat.lt_of_lt_of_le hx HD.out.2.1.size)]
        exact HD.out.1 x hx
      obtain ⟨ao, cp, rfl, hrow⟩ : ∃ ao cp, e = .returned (.slice ao us.length cp) ∧ (us = [] ∨ ∃ g, ao = some ⟨g, 0, none⟩ ∧ us.length ≤ cp ∧ wr.heap.size ≤ g ∧ g < w3.heap.size ∧ RowU w3 g us) := by
        rcases hcase with ⟨h1, h2⟩ | ⟨g, cp, h1, h2, h3, h4, h5⟩
        · exact ⟨none, 0, by rw [h2, h1]; rfl, .inl h1⟩
        · exact ⟨_, cp, h1, .inr ⟨g, rfl, h2, h3, h4, h5⟩⟩
      have HROW := Lib.hid hrow
      have S1 := Lib.hid (And.intro G0 (And.intro HI.out HP.out))
      clear hT2 G0 hcase hrow hb3 hxs hnd hperm HP HD
      go_wp2_with fail
      go_loopg [5, 6, 17] us.length (fun kx sc ss sj wv => ∃ (L2 : DL) (ch2 : Bool) (st2 j : Nat), sc = .bool ch2 ∧ ss = .int .i64 st2 ∧ sj = .int .i64 j ∧ j ≤ us.length ∧ us.length - j ≤ kx ∧ st2 ≤ lv * 100000 + j ∧ Hid (Goes T2 i w3 (Dl p k n L2) wv ∧ LInv n L2 ∧ Pend L2 lv (us.drop j)) ∧ Hid (innerL most lv (us.drop j) L2 ch2 st2 = innerL most lv us L1 ch st))
      case atStart => exact ⟨L1, ch, st, 0, rfl, rfl, rfl, Nat.zero_le _, Nat.sub_le _ _, Nat.le_trans hst (Nat.le_add_right _ _), Lib.hid ⟨S1.out.1, S1.out.2.1, by rw [List.drop_zero]; exact S1.out.2.2⟩, Lib.hid (by rw [List.drop_zero])⟩
      case round =>
        clear S1
        obtain ⟨L2, ch2, st2, j, rfl, rfl, rfl, hj, hkj, hst2, HS2, HE⟩ := hrel
        by_cases hjl : j < us.length
        · have hjz : (j : Int) < (us.length : Int) := by omega
          rcases HROW.out with h0 | ⟨g, rfl, hcp, hg1, hg2, hR⟩
          · exfalso
            rw [h0] at hjl
            exact absurd hjl (Nat.not_lt_zero _)
          obtain ⟨u, hu⟩ : ∃ u, us[j] = u := ⟨_, rfl⟩
          have hdr : us.drop j = u :: us.drop (j + 1) := by rw [List.drop_eq_getElem_cons hjl, hu]
          obtain ⟨⟨T3, n3, e3, b3, hd3⟩, hI2, hP2⟩ := HS2.out
          rw [hdr] at hP2
          have hum := hP2 u (List.mem_cons_self ..)
          have hcell : wr.cell? ⟨g, j, none⟩ = some (.int .u64 (u.toNat : Int)) := by
            have h1 := (hR j hjl).1
            rw [show us[j]! = u by rw [getElem!_pos us j hjl, hu]] at h1
            rw [World.cell?_of_block (e3.block g hg2 (HT2.out g hg1))]
            exact h1
          obtain ⟨uz, huz⟩ : ∃ uz : Int, (u.toNat : Int) = uz := ⟨_, rfl⟩
          have ekv : kV (cd lv u.toNat) = .agg #[.int .i64 lv, .int .u64 uz] := by rw [kV_cd, huz]
          have hsum := hI2.sums hn (cd lv u.toNat)
          have K := lift_at (most := most) hd3 (kin_of_low hum.1) (by rw [low_cd]; omega) hsum.1 hsum.2 (by have := hI2.len; unfold maxLen; omega)
          rw [ekv] at K
          rw [huz] at hcell
          have H3 := Lib.hid (And.intro n3 e3)
          have HP2 := Lib.hid hP2
          have HI2 := Lib.hid hI2
          have HDR := Lib.hid hdr
          clear hd3 hI2 hP2 hum hsum ekv hu hdr n3 e3 HS2 hR
          go_wp2_with fail
          refine K.mono ?_
          clear K
          rintro e w5 (⟨hm, rfl, hG⟩ | ⟨hm, rfl, hG⟩)
          · have HG5 : Hid (Goes T2 i w3 (Dl p k n L2) w5) := Lib.hid (Goes.after H3.out.1 H3.out.2 hG.out)
            obtain ⟨T5, n5, e5, b5, hd5⟩ := hG.out
            have c5 := hd5.cells.2.2.1
            have l5 := hd5.map.len
            have ws : IntKind.i64.wrap ((st2 : Int) + 1) = (st2 : Int) + 1 := by rw [IntKind.wrap_i64]; omega
            by_cases hq : st2 + 1 = L2.length
            · have hqz : ((st2 : Int) + 1 == (L2.length : Int)) = true := by simp; omega
              have HF : Hid (OuterL most 0 L false 0 L2 ch2) := Lib.hid (HO.out _ _ (.stop hl64 HU.out.1 HU.out.2.1 HU.out.2.2 (st' := st2 + 1) (by
                rw [← HE.out, HDR.out]
                show (if allC L2 (cd lv u.toNat) ≤ most then _ else if st2 + 1 = L2.length then _ else _) = _
                rw [if_neg (by omega), if_pos hq])))
              clear hd5 n5 e5 hm hG hq
              go_wp2_with fail
              refine bodyPost_ret (results_tmp rfl _ _ _) rfl ?_
              exact ⟨L2, ch2, rfl, HF.out, HI2.out, HCH.out _ _ HG5.out⟩
            · have hqz : ((st2 : Int) + 1 == (L2.length : Int)) = false := by simp; omega
              have HN : Hid (innerL most lv (us.drop (j + 1)) L2 ch2 (st2 + 1) = innerL most lv us L1 ch st) := Lib.hid (by
                rw [← HE.out, HDR.out]
                show _ = if allC L2 (cd lv u.toNat) ≤ most then _ else if st2 + 1 = L2.length then _ else _
                rw [if_neg (by omega), if_neg hq])
              have HS3 : Hid (Goes T2 i w3 (Dl p k n L2) w5 ∧ LInv n L2 ∧ Pend L2 lv (us.drop (j + 1))) := Lib.hid ⟨HG5.out, HI2.out, fun v hv => HP2.out v (List.mem_cons_of_mem _ hv)⟩
              clear hd5 n5 e5 hm hG hq HE H3 HP2 HI2 HDR HG5
              go_wp2_with fail
              go_roundg (us.length - (j + 1))
              case measure => omega
              case rel => exact ⟨L2, ch2, st2 + 1, j + 1, rfl, by go_num, by go_num, by omega, by omega, by omega, HS3, HN⟩
          · have HN : Hid (innerL most lv (us.drop (j + 1)) (liftL L2 (cd lv u.toNat)) true st2 = innerL most lv us L1 ch st) := Lib.hid (by
              rw [← HE.out, HDR.out]
              show _ = if allC L2 (cd lv u.toNat) ≤ most then _ else _
              rw [if_pos hm])
            have HS3 : Hid (Goes T2 i w3 (Dl p k n (liftL L2 (cd lv u.toNat))) w5 ∧ LInv n (liftL L2 (cd lv u.toNat)) ∧ Pend (liftL L2 (cd lv u.toNat)) lv (us.drop (j + 1))) :=
              Lib.hid ⟨Goes.after H3.out.1 H3.out.2 hG.out, HI2.out.lift HP2.out hl64 (List.mem_cons_self ..), pend_step (fun v hv => HP2.out v (List.mem_cons_of_mem _ hv)) low_cd⟩
            clear hm hG HE H3 HP2 HI2 HDR
            go_wp2_with fail
            go_roundg (us.length - (j + 1))
            case measure => omega
            case rel => exact ⟨_, true, st2, j + 1, rfl, rfl, by go_num, by omega, by omega, by omega, HS3, HN⟩
        · have hjz : ¬ (j : Int) < (us.length : Int) := by omega
          obtain rfl : j = us.length := by omega
          have HN : Hid (∀ L3 ch3, OuterL most (lv + 1) L2 ch2 st2 L3 ch3 → OuterL most 0 L false 0 L3 ch3) := Lib.hid fun L3 ch3 h3 => HO.out L3 ch3 (.next hl64 HU.out.1 HU.out.2.1 HU.out.2.2 (by rw [← HE.out, List.drop_length]; rfl) h3)
          have HS3 : Hid (Goes T i w (Dl p k n L2) wr ∧ LInv n L2) := Lib.hid ⟨HCH.out _ _ HS2.out.1, HS2.out.2.1⟩
          clear HE HS2
          go_wp2_with fail
          go_roundg (64 - (lv + 1))
          case measure => omega
          case rel => exact ⟨L2, ch2, st2, lv + 1, rfl, rfl, by go_num, by omega, by omega, by omega, HS3, HN⟩
    · have hlz : ¬ (lv : Int) < 64 := by omega
      obtain rfl : lv = 64 := by omega
      go_wp2_with fail
      refine bodyPost_ret (results_tmp rfl _ _ _) rfl ?_
      exact ⟨L1, ch, rfl, HO.out _ _ (.top L1 ch st), HS.out.2, HS.out.1⟩
end Go.Proofs.Ytahaoodklfmddaa
