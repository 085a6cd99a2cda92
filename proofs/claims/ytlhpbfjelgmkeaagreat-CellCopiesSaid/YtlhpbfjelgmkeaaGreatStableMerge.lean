/- slices.symMergeCmpFunc at heavy.Counter: two sorted neighbours become one sorted part. Conditions: as stated. -/
import Derived.Test.YtlhpbfjelgmkeaaGreatStableTwo
import Derived.Deep.CutBlock
import Derived.Deep.DeepCutAuto
set_option maxRecDepth 1000000
namespace Go.Proofs.YtlhpbfjelgmkeaaGreat.Hvy
open Go.Shelf Go.RowKit Go.Lib Go.Sort

section
variable {g : Nat} {cf : Int × Int → Int × Int → Int} {lt : Int × Int → Int × Int → Bool} {Rr : Int × Int → Int × Int → Prop} {w0 : World} {blk off : Nat} {d0 : Array (Int × Int)}
/-- what a merge of [a', b') leaves -/
def MergedAt (lt : Int × Int → Int × Int → Bool) (w0 : World) (blk off a b : Nat) (d : Array (Int × Int)) (w' : World) : Prop := ∃ d', SWK encP 2 w0 blk off d' w' ∧ PermIn a b d d' ∧ SortedIn lt a b d'
def RotAt (w0 : World) (blk off a m b : Nat) (d : Array (Int × Int)) (w' : World) : Prop := ∃ d', SWK encP 2 w0 blk off d' w' ∧ Rot d d' a m b ∧ PermIn a b d d'

/-- a test says whether something is so -/
def Says (q : Bool) (c : Prop) : Prop := q = true ↔ c
theorem says_yes {c : Prop} (h : c) : Says true c := ⟨fun _ => h, fun _ => rfl⟩
theorem says_no {c : Prop} (h : ¬ c) : Says false c := ⟨(fun h => nomatch h), (fun h' => absurd h' h)⟩
theorem Says.yes {c : Prop} (h : Says true c) : c := h.1 rfl
theorem Says.no {c : Prop} (h : Says false c) : ¬ c := fun h' => nomatch (h.2 h')

theorem two_congr {R : Int × Int → Int × Int → Prop} {d d' : Array (Int × Int)} {a m b : Nat} (h : Two lt R d a m b) (ham : a ≤ m) (he : ∀ t, a ≤ t → d'[t]! = d[t]!) : Two lt R d' a m b :=
  ⟨fun i j h1 h2 h3 => by rw [he i h1, he j (by omega)]; exact h.left i j h1 h2 h3, fun i j h1 h2 h3 => by rw [he i (by omega), he j (by omega)]; exact h.right i j h1 h2 h3,
    fun i j h1 h2 h3 h4 => by rw [he i h1, he j (by omega)]; exact h.cross i j h1 h2 h3 h4⟩

set_option maxHeartbeats 32000000 in
theorem merge_main (O : Ord g cf lt Rr w0 blk off d0) {cap a m b : Nat} {d : Array (Int × Int)} {w : World} (hs : d0.size = d.size) (S : SWK encP 2 w0 blk off d w) (hT : Two lt Rr d a m b) (ham : a + 1 < m) (hmb : m + 1 < b) (hb : b ≤ d.size)
    (KM : Hid (∀ (a' m' b' : Nat) (dk : Array (Int × Int)) (W : World), b' - a' < b - a → dk.size = d.size → SWK encP 2 w0 blk off dk W → Two lt Rr dk a' m' b' → a' < m' → m' < b' → b' ≤ d.size →
      Calls Tryz.prog 299 #[.slice (some ⟨blk, off, none⟩) d.size cap, .int .i64 a', .int .i64 m', .int .i64 b', .func (.func g) #[] #[]] W fun e w' => e = .returned (.tuple #[]) ∧ Hid (MergedAt lt w0 blk off a' b' dk w'))) :
    Calls Tryz.prog 299 #[.slice (some ⟨blk, off, none⟩) d.size cap, .int .i64 a, .int .i64 m, .int .i64 b, .func (.func g) #[] #[]] w fun e w' =>
      e = .returned (.tuple #[]) ∧ Hid (MergedAt lt w0 blk off a b d w') := by
  have S0 : Aside (SWK encP 2 w0 blk off d w) := S
  have HT : Hid (Two lt Rr d a m b) := hT
  have hsz := O.size
  have eg := O.eg
  have mixed : Tryz.prog.follows .mixedOrders = true := by kernel_rfl
  have HO : Hid (Ord g cf lt Rr w0 blk off d0) := O
  clear S hT
  obtain ⟨mid, hmid⟩ : ∃ mid, (a + b) / 2 = mid := ⟨_, rfl⟩
  have HMID : Hid (mid = (a + b) / 2) := hmid.symm
  obtain ⟨N, hN⟩ : ∃ N, mid + m = N := ⟨_, rfl⟩
  have HN : Hid (mid + m = N) := hN
  obtain ⟨p, hp⟩ : ∃ p, N = p + 1 := ⟨N - 1, by omega⟩
  have HP1 : Hid (N = p + 1) := hp
  have d1 : 2 * mid ≤ a + b := by omega
  have d2 : a + b ≤ 2 * mid + 1 := by omega
  have d3 : a < mid := by omega
  have d4 : mid < b := by omega
  have wma : IntKind.i64.wrap ((m : Int) - (a : Int)) = (m : Int) - (a : Int) := by rw [IntKind.wrap_i64]; omega
  have tma : ((m : Int) - (a : Int) == 1) = false := by simp; omega
  have wbm : IntKind.i64.wrap ((b : Int) - (m : Int)) = (b : Int) - (m : Int) := by rw [IntKind.wrap_i64]; omega
  have tbm : ((b : Int) - (m : Int) == 1) = false := by simp; omega
  have h4 : (0 : Int) ≤ (a : Int) + (b : Int) := by omega
  have tmid : ((a : Int) + (b : Int)) / 2 = (mid : Int) := by omega
  have tn : (mid : Int) + (m : Int) = (N : Int) := by omega
  have tp : (N : Int) - 1 = (p : Int) := by omega
  have hbz : (b : Int) ≤ (d.size : Int) := by omega
  have hmz : (m : Int) < (b : Int) := by omega
  have hdz : (mid : Int) < (b : Int) := by omega
  have n1 : N ≤ p + 1 := by omega
  have n2 : p + 1 ≤ N := by omega
  have n3 : mid + m ≤ N := by omega
  have n4 : N ≤ mid + m := by omega
  clear O hmid hN hp
  obtain ⟨s0, r0, hcase, e0, e1, e2, e3, e4, e5⟩ : ∃ s0 r0, ((mid < m ∧ s0 = mid + m - b ∧ r0 = mid) ∨ (m ≤ mid ∧ s0 = a ∧ r0 = m)) ∧ a ≤ s0 ∧ s0 ≤ r0 ∧ r0 ≤ m ∧ r0 ≤ mid ∧ p < b + s0 ∧ m + r0 ≤ p + 1 := by
    rcases Nat.lt_or_ge mid m with hgt | hgt
    · exact ⟨mid + m - b, mid, .inl ⟨hgt, rfl, rfl⟩, by omega, by omega, by omega, by omega, by omega, by omega⟩
    · exact ⟨a, m, .inr ⟨hgt, rfl, rfl⟩, by omega, by omega, by omega, by omega, by omega, by omega⟩
  have HC : Hid ((mid < m ∧ s0 = mid + m - b ∧ r0 = mid) ∨ (m ≤ mid ∧ s0 = a ∧ r0 = m)) := hcase
  go_enter Tryz.func299, Tryz.ntmps299
  clear hcase
  go_upto_if 140 with (fail)
  go_cut [20, 21] (fun s20 s21 wx => s20 = .int .i64 s0 ∧ s21 = .int .i64 r0 ∧ wx = w)
  case first =>
    rcases HC.out with ⟨hgt, h1, h2⟩ | ⟨hgt, h1, h2⟩
    · have hgz : (mid : Int) < (m : Int) := by omega
      have ts : (N : Int) - (b : Int) = (s0 : Int) := by omega
      have H2 := Lib.hid h2
      clear h1 h2
      go_wp2_with fail
      go_meet
      exact ⟨rfl, by rw [H2.out], rfl⟩
    · have hgz : ¬ (mid : Int) < (m : Int) := by omega
      have H1 := Lib.hid h1
      have H2 := Lib.hid h2
      clear h1 h2
      go_wp2_with fail
      go_meet
      exact ⟨by rw [H1.out], by rw [H2.out], rfl⟩
  case rest =>
    obtain ⟨rfl, rfl, rfl⟩ := hcut
    clear wma tma wbm tbm h4 tmid tn
    go_wp2_with fail
    go_loopg [20, 21] (r0 - s0) (fun kx ss sr wr => ∃ (s r : Nat), ss = .int .i64 s ∧ sr = .int .i64 r ∧ s0 ≤ s ∧ s ≤ r ∧ r ≤ r0 ∧ r - s ≤ kx ∧ Aside (SWK encP 2 w0 blk off d wr) ∧ Hid (∀ c, s0 ≤ c → c < s → lt d[mid + m - 1 - c]! d[c]! = false) ∧ Hid (∀ c, r ≤ c → c < r0 → lt d[mid + m - 1 - c]! d[c]! = true))
    case atStart => exact ⟨s0, r0, rfl, rfl, by omega, by omega, by omega, by omega, S0, fun h h1 h2 => by omega, fun h h1 h2 => by omega⟩
    case round =>
      clear S0
      obtain ⟨s, r, rfl, rfl, hss, hsr, hrr, hkx, S1, HL, HH⟩ := hrel
      by_cases hlt : s < r
      · have hltz : (s : Int) < (r : Int) := by omega
        obtain ⟨C, hC⟩ : ∃ C, (s + r) / 2 = C := ⟨_, rfl⟩
        obtain ⟨Q, hQ⟩ : ∃ Q, p - C = Q := ⟨_, rfl⟩
        have tc : ((s : Int) + (r : Int)) / 2 = (C : Int) := by omega
        have tq : (p : Int) - (C : Int) = (Q : Int) := by omega
        have wq : IntKind.i64.wrap ((p : Int) - (C : Int)) = (Q : Int) := by rw [IntKind.wrap_i64]; omega
        have wq2 : IntKind.i64.wrap (Q : Int) = (Q : Int) := by rw [IntKind.wrap_i64]; omega
        have eq0 : (0 : Int) ≤ (Q : Int) := by omega
        have eq1 : ((Q : Int)).toNat = Q := by omega
        have ec0 : (0 : Int) ≤ (C : Int) := by omega
        have ec1 : ((C : Int)).toNat = C := by omega
        have c1 : s ≤ C := by omega
        have c2 : C < r := by omega
        have c3 : (C : Int) < (d.size : Int) := by omega
        have c4 : (Q : Int) < (d.size : Int) := by omega
        have c5 : (0 : Int) ≤ (s : Int) + (r : Int) := by omega
        have c6 : m ≤ Q := by omega
        have c7 : Q < b := by omega
        have HQ : Hid (mid + m - 1 - C = Q) := by have := HN.out; have := HP1.out; show _ = _; omega
        have HPC : Hid (p + 1 = mid + m) := by have := HN.out; have := HP1.out; show _ = _; omega
        obtain ⟨cx0, cx1⟩ := HO.out.cells S1.out hs.symm (show Q < d.size by omega)
        obtain ⟨ca0, ca1⟩ := HO.out.cells S1.out hs.symm (show C < d.size by omega)
        have hcg := HO.out.calls S1.out hs.symm d[Q]! d[C]!
        have he : ltOf cf d[Q]! d[C]! = lt d[Q]! d[C]! := HO.out.like _ _ (HT.out.cross C Q (by omega) (by omega) (by omega) (by omega))
        clear hC hQ
        cases hv : lt d[Q]! d[C]! with
        | false =>
          have HV : Hid (lt d[Q]! d[C]! = false) := hv
          rw [hv] at he
          have hd : ¬ cf d[Q]! d[C]! < 0 := of_decide_eq_false he
          clear hv he
          generalize cf d[Q]! d[C]! = r' at hcg hd
          have hd2 : (0 : Int) ≤ r' := by omega
          have hd3 : decide (r' < 0) = false := decide_eq_false hd
          clear hd
          generalize d[Q]!.1 = x0 at cx0 hcg
          generalize d[Q]!.2 = x1 at cx1 hcg
          generalize d[C]!.1 = y0 at ca0 hcg
          generalize d[C]!.2 = y1 at ca1 hcg
          go_wp2_with fail
          go_quiet_grown (first | (go_at_fn g; refine Calls.grown_of (hcg _ _)))
          have S2 : Aside (SWK encP 2 w0 blk off d (grow (wr.drewN nq) osq)) := S1.out.grown nq osq
          clear cx0 cx1 ca0 ca1 hcg S1 tq wq tc wq2 eq0 eq1 ec0 ec1
          generalize grow (wr.drewN nq) osq = wv at S2 ⊢
          clear nq osq
          go_wp2
          go_roundg (r - (C + 1))
          case measure => omega
          case rel => exact ⟨C + 1, r, by go_num, rfl, by omega, by omega, hrr, Nat.le_refl _, S2, fun c q1 q2 => by
              have := HPC.out
              refine no_below HO.out.swo HT.out (p := mid + m - 1) (c := C) (by omega) (by omega) (by omega) (by omega) (by omega) ?_
              rw [HQ.out]; exact HV.out, HH⟩
        | true =>
          have HV : Hid (lt d[Q]! d[C]! = true) := hv
          rw [hv] at he
          have hd : cf d[Q]! d[C]! < 0 := of_decide_eq_true he
          have hd3 : decide (cf d[Q]! d[C]! < 0) = true := he
          clear hv he
          generalize cf d[Q]! d[C]! = r' at hcg hd hd3
          generalize d[Q]!.1 = x0 at cx0 hcg
          generalize d[Q]!.2 = x1 at cx1 hcg
          generalize d[C]!.1 = y0 at ca0 hcg
          generalize d[C]!.2 = y1 at ca1 hcg
          go_wp2_with fail
          go_quiet_grown (first | (go_at_fn g; refine Calls.grown_of (hcg _ _)))
          have S2 : Aside (SWK encP 2 w0 blk off d (grow (wr.drewN nq) osq)) := S1.out.grown nq osq
          clear cx0 cx1 ca0 ca1 hcg S1 tq wq tc wq2 eq0 eq1 ec0 ec1
          generalize grow (wr.drewN nq) osq = wv at S2 ⊢
          clear nq osq
          go_wp2
          go_roundg (C - s)
          case measure => omega
          case rel => exact ⟨s, C, rfl, rfl, by omega, by omega, by omega, Nat.le_refl _, S2, HL, fun c q1 q2 => by
              have := HPC.out
              refine yes_above HO.out.swo HT.out (p := mid + m - 1) (c := C) (by omega) (by omega) (by omega) (by omega) (by omega) ?_
              rw [HQ.out]; exact HV.out⟩
      · obtain rfl : s = r := by omega
        have HPC : Hid (p + 1 = mid + m) := by have := HN.out; have := HP1.out; show _ = _; omega
        obtain ⟨E, hE⟩ : ∃ E, N - s = E := ⟨_, rfl⟩
        have HE : Hid (mid + m - s = E) := by have := HN.out; show _ = _; omega
        have te : (N : Int) - (s : Int) = (E : Int) := by have := HN.out; omega
        have HCUT : Hid (Cutp lt d a m b mid s) := cut_of HO.out.swo HT.out (by omega) (by omega) HMID.out HC.out hss hrr HL.out HH.out (by omega)
        have f1 : m ≤ E := by have := HN.out; omega
        have f2 : E ≤ b := by have := HCUT.out.hi; have := HE.out; omega
        clear hE hkx hsr hlt
        clear tp hbz hmz hdz n1 n2 n3 n4
        go_upto_region 39 with (fail)
        clear te
        go_cut [185] from 178 to 184 (fun t wx => ∃ q : Bool, t = .bool q ∧ Says q (s < m ∧ m < E) ∧ wx = wr)
        case first =>
          by_cases h1 : s < m
          · have z1 : (s : Int) < (m : Int) := by omega
            by_cases h2 : m < E
            · have z2 : (m : Int) < (E : Int) := by omega
              have e : Says true (s < m ∧ m < E) := says_yes ⟨h1, h2⟩
              go_wp2_with fail
              go_meet
              exact ⟨_, rfl, e, rfl⟩
            · have z2 : ¬ (m : Int) < (E : Int) := by omega
              have e : Says false (s < m ∧ m < E) := says_no (fun h => h2 h.2)
              go_wp2_with fail
              go_meet
              exact ⟨_, rfl, e, rfl⟩
          · have z1 : ¬ (s : Int) < (m : Int) := by omega
            have e : Says false (s < m ∧ m < E) := says_no (fun h => h1 h.1)
            go_wp2_with fail
            go_meet
            exact ⟨_, rfl, e, rfl⟩
        case rest =>
          obtain ⟨q, rfl, hq, hw1⟩ := hcut
          obtain ⟨w1, hwc⟩ : ∃ x, x = wc := ⟨_, rfl⟩
          have S2 : Aside (SWK encP 2 w0 blk off d w1) := by rw [hwc, hw1]; exact S1
          rw [← hwc]
          clear hw1 hwc S1
          go_upto_if 185 with (fail)
          go_cut [] from 186 to 191 (fun wx => Hid (RotAt w0 blk off s m E d wx))
          case first =>
            cases q with
            | true =>
              have h := hq.yes
              have KR := rotate_any (.func (.func g) #[] #[]) blk off cap s m E d0 d w0 w1 HO.out.row hs S2.out h.1 h.2 (by omega) (by omega)
              clear h
              go_wp2_with fail
              refine KR.mono ?_
              rintro e w2 ⟨rfl, h2⟩
              have H2 : Hid (RotAt w0 blk off s m E d w2) := Lib.hid h2
              clear h2 KR
              go_wp2_with fail
              go_meet
              exact H2
            | false =>
              have h : ¬ (s < m ∧ m < E) := hq.no
              have H2 : Hid (RotAt w0 blk off s m E d w1) := by
                refine ⟨d, S2.out, ?_, permIn_refl d s E⟩
                rcases Nat.lt_or_ge s m with h1 | h1
                · obtain rfl : E = m := by omega
                  exact rot_none_r d s E
                · obtain rfl : s = m := by have := HCUT.out.lo; omega
                  exact rot_none_l d s E
              clear h
              go_wp2_with fail
              go_meet
              exact H2
          case rest =>
            obtain ⟨w2, hwc⟩ : ∃ x, x = wc := ⟨_, rfl⟩
            rw [← hwc] at hcut ⊢
            clear hwc S2
            obtain ⟨dr, hr1, hr2, hr3⟩ := hcut.out
            clear hcut
            have hr2' : Rot d dr s m (mid + m - s) := by rw [HE.out]; exact hr2
            have T1 : Hid (Two lt Rr dr a s mid) := HCUT.out.first HT.out hr2'
            have T2 : Hid (Two lt Rr dr mid E b) := by have := HCUT.out.second HT.out hr2'; rw [HE.out] at this; exact this
            have AP : Hid (∀ i j, a ≤ i → i < mid → mid ≤ j → j < b → lt dr[j]! dr[i]! = false) := HCUT.out.apart HT.out hr2'
            have SR : Aside (SWK encP 2 w0 blk off dr w2) := hr1
            have g1 : a ≤ s := HCUT.out.lo.1
            have g2 : s ≤ mid := HCUT.out.lo.2.2
            have g3 : mid ≤ E := by have := HE.out; have := HCUT.out.lo; omega
            have PR : Hid (PermIn a b d dr) := permIn_mono d dr s E a b g1 f2 hb hr3
            have hdr : dr.size = d.size := hr3.1
            clear hr1 hr2 hr2' hr3 HL HH HT
            go_upto_region 41 with (fail)
            go_cut [199] from 192 to 198 (fun t wx => ∃ q : Bool, t = .bool q ∧ Says q (a < s ∧ s < mid) ∧ wx = w2)
            case first =>
              by_cases h1 : a < s
              · have z1 : (a : Int) < (s : Int) := by omega
                by_cases h2 : s < mid
                · have z2 : (s : Int) < (mid : Int) := by omega
                  have e : Says true (a < s ∧ s < mid) := says_yes ⟨h1, h2⟩
                  go_wp2_with fail
                  go_meet
                  exact ⟨_, rfl, e, rfl⟩
                · have z2 : ¬ (s : Int) < (mid : Int) := by omega
                  have e : Says false (a < s ∧ s < mid) := says_no (fun h => h2 h.2)
                  go_wp2_with fail
                  go_meet
                  exact ⟨_, rfl, e, rfl⟩
              · have z1 : ¬ (a : Int) < (s : Int) := by omega
                have e : Says false (a < s ∧ s < mid) := says_no (fun h => h1 h.1)
                go_wp2_with fail
                go_meet
                exact ⟨_, rfl, e, rfl⟩
            case rest =>
              obtain ⟨q, rfl, hq, hw1⟩ := hcut
              obtain ⟨w3, hwc⟩ : ∃ x, x = wc := ⟨_, rfl⟩
              have S3 : Aside (SWK encP 2 w0 blk off dr w3) := by rw [hwc, hw1]; exact SR
              rw [← hwc]
              clear hw1 hwc SR
              go_upto_if 199 with (fail)
              go_cut [] from 200 to 205 (fun wx => Hid (MergedAt lt w0 blk off a mid dr wx))
              case first =>
                cases q with
                | true =>
                  have h := hq.yes
                  have KR := KM.out a s mid dr w3 (by omega) hdr S3.out T1.out h.1 h.2 (by omega)
                  clear h
                  go_wp2_with fail
                  refine KR.mono ?_
                  rintro e w4 ⟨rfl, H2⟩
                  clear KR
                  go_wp2_with fail
                  go_meet
                  exact H2
                | false =>
                  have h : ¬ (a < s ∧ s < mid) := hq.no
                  have H2 : Hid (MergedAt lt w0 blk off a mid dr w3) := by
                    refine ⟨dr, S3.out, permIn_refl dr a mid, ?_⟩
                    rcases Nat.lt_or_ge a s with h1 | h1
                    · obtain rfl : s = mid := by omega
                      exact T1.out.left
                    · obtain rfl : s = a := by omega
                      exact T1.out.right
                  clear h
                  go_wp2_with fail
                  go_meet
                  exact H2
              case rest =>
                obtain ⟨w4, hwc⟩ : ∃ x, x = wc := ⟨_, rfl⟩
                rw [← hwc] at hcut ⊢
                clear hwc S3
                obtain ⟨de, hr1, hr2, hr3⟩ := hcut.out
                clear hcut
                have SE : Aside (SWK encP 2 w0 blk off de w4) := hr1
                have T3 : Hid (Two lt Rr de mid E b) := two_congr T2.out g3 (fun t h => hr2.2.1 t (.inr h))
                have hde : de.size = d.size := hr2.1.trans hdr
                have P1 : Hid (PermIn a mid dr de) := hr2
                have Q1 : Hid (SortedIn lt a mid de) := hr3
                clear hr1 hr2 hr3 T1 T2
                go_upto_region 43 with (fail)
                go_cut [213] from 206 to 212 (fun t wx => ∃ q : Bool, t = .bool q ∧ Says q (mid < E ∧ E < b) ∧ wx = w4)
                case first =>
                  by_cases h1 : mid < E
                  · have z1 : (mid : Int) < (E : Int) := by omega
                    by_cases h2 : E < b
                    · have z2 : (E : Int) < (b : Int) := by omega
                      have e : Says true (mid < E ∧ E < b) := says_yes ⟨h1, h2⟩
                      go_wp2_with fail
                      go_meet
                      exact ⟨_, rfl, e, rfl⟩
                    · have z2 : ¬ (E : Int) < (b : Int) := by omega
                      have e : Says false (mid < E ∧ E < b) := says_no (fun h => h2 h.2)
                      go_wp2_with fail
                      go_meet
                      exact ⟨_, rfl, e, rfl⟩
                  · have z1 : ¬ (mid : Int) < (E : Int) := by omega
                    have e : Says false (mid < E ∧ E < b) := says_no (fun h => h1 h.1)
                    go_wp2_with fail
                    go_meet
                    exact ⟨_, rfl, e, rfl⟩
                case rest =>
                  obtain ⟨q, rfl, hq, hw1⟩ := hcut
                  obtain ⟨w5, hwc⟩ : ∃ x, x = wc := ⟨_, rfl⟩
                  have S5 : Aside (SWK encP 2 w0 blk off de w5) := by rw [hwc, hw1]; exact SE
                  rw [← hwc]
                  clear hw1 hwc SE
                  have FIN : Hid (∀ W, MergedAt lt w0 blk off mid b de W → MergedAt lt w0 blk off a b d W) := Lib.hid fun W ⟨df, k1, k2, k3⟩ =>
                    ⟨df, k1, permIn_trans _ _ _ _ _ (permIn_trans _ _ _ _ _ PR.out (permIn_mono dr de a mid a b (Nat.le_refl _) (by omega) (by omega) P1.out)) (permIn_mono de df mid b a b (by omega) (Nat.le_refl _) (by omega) k2),
                      sorted_halves (d' := dr) (by omega) (by omega) AP.out P1.out Q1.out k2 k3⟩
                  cases q with
                  | true =>
                    have h := hq.yes
                    have KR := KM.out mid E b de w5 (by omega) hde S5.out T3.out h.1 h.2 hb
                    clear h
                    go_wp2_with fail
                    refine KR.mono ?_
                    rintro e w6 ⟨rfl, H2⟩
                    clear KR
                    go_wp2_with fail
                    go_end0
                    exact ⟨rfl, FIN.out _ H2.out⟩
                  | false =>
                    have h : ¬ (mid < E ∧ E < b) := hq.no
                    have H2 : Hid (MergedAt lt w0 blk off mid b de w5) := by
                      refine ⟨de, S5.out, permIn_refl de mid b, ?_⟩
                      rcases Nat.lt_or_ge mid E with h1 | h1
                      · obtain rfl : E = b := by omega
                        exact T3.out.left
                      · obtain rfl : E = mid := by omega
                        exact T3.out.right
                    clear h
                    go_wp2_with fail
                    go_end0
                    exact ⟨rfl, FIN.out _ H2.out⟩
end
end Go.Proofs.YtlhpbfjelgmkeaaGreat.Hvy
