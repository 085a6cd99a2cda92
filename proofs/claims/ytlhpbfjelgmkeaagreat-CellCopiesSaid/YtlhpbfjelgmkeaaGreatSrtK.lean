/- slices.pdqsortOrdered and slices.Sort at []uint64: the row holds its numbers in another order. Conditions: none but the row. -/
import Derived.Test.YtlhpbfjelgmkeaaGreatSrtP
import Derived.Test.YtlhpbfjelgmkeaaGreatSrtQ
import Derived.Test.YtlhpbfjelgmkeaaGreatSrtF
import Derived.Test.YtlhpbfjelgmkeaaGreatSrtG
import Derived.Deep.CutBlock
import Derived.Deep.CutRange
import Derived.Deep.DeepCutAuto
set_option maxRecDepth 1000000
namespace Go.Proofs.YtlhpbfjelgmkeaaGreat.Dig
open Go.Shelf Go.RowKit Go.Lib Go.Sort

set_option maxHeartbeats 32000000 in
theorem pdq_step (blk off cap n a0 b0 : Nat) (l0 : Int) (d0 : Array UInt64) (w0 w : World) (R : RowW w0 blk off d0) (S : Srt w0 blk off d0 w) (hn : b0 - a0 ≤ n) (hab0 : a0 ≤ b0) (hb : b0 ≤ d0.size) (hsz : d0.size < 1152921504606846976)
    (IH : ∀ (a b : Nat) (l : Int) (W : World), b - a < n → a ≤ b → b ≤ d0.size → Srt w0 blk off d0 W → Calls Tryz.prog 260 #[.slice (some ⟨blk, off, none⟩) d0.size cap, .int .i64 a, .int .i64 b, .int .i64 l] W fun e w' => e = .returned (.tuple #[]) ∧ Srt w0 blk off d0 w') :
    Calls Tryz.prog 260 #[.slice (some ⟨blk, off, none⟩) d0.size cap, .int .i64 a0, .int .i64 b0, .int .i64 l0] w fun e w' => e = .returned (.tuple #[]) ∧ Srt w0 blk off d0 w' := by
  have S0 : Aside (Srt w0 blk off d0 w) := S
  have HR : Hid (RowW w0 blk off d0) := R
  have mixed : Tryz.prog.follows .mixedOrders = true := by kernel_rfl
  have KI := Lib.hid IH
  have KIns := Lib.hid (fun (W : World) (a b : Nat) (h : Srt w0 blk off d0 W) (h1 : a ≤ b) (h2 : b ≤ d0.size) => insertion_w blk off cap a b d0 w0 W R h h1 h2 (by omega))
  have KHeap := Lib.hid (fun (W : World) (a b : Nat) (h : Srt w0 blk off d0 W) (h1 : a < b) (h2 : b ≤ d0.size) => heap_w blk off cap a b d0 w0 W R h h1 h2 hsz)
  have KBreak := Lib.hid (fun (W : World) (a b : Nat) (h : Srt w0 blk off d0 W) (h1 : a + 8 ≤ b) (h2 : b ≤ d0.size) => break_w blk off cap a b d0 w0 W R h h1 h2 hsz)
  have KPiv := Lib.hid (fun (W : World) (a b : Nat) (h : Srt w0 blk off d0 W) (h1 : a + 8 ≤ b) (h2 : b ≤ d0.size) => pivot_w blk off cap a b d0 w0 W R h h1 h2 hsz)
  have KRev := Lib.hid (fun (W : World) (a b : Nat) (h : Srt w0 blk off d0 W) (h1 : a < b) (h2 : b ≤ d0.size) => reverse_w blk off cap a b d0 w0 W R h h1 h2 (by omega))
  have KPins := Lib.hid (fun (W : World) (a b : Nat) (h : Srt w0 blk off d0 W) (h1 : a < b) (h2 : b ≤ d0.size) => pins_w blk off cap a b d0 w0 W R h h1 h2 hsz)
  have KPart := Lib.hid (fun (W : World) (a b x : Nat) (h : Srt w0 blk off d0 W) (h1 : a ≤ x) (h2 : x < b) (h3 : b ≤ d0.size) => part_w blk off cap a b x d0 w0 W R h h1 h2 h3 hsz)
  have KEq := Lib.hid (fun (W : World) (a b x : Nat) (h : Srt w0 blk off d0 W) (h1 : a ≤ x) (h2 : x < b) (h3 : b ≤ d0.size) => parteq_w blk off cap a b x d0 w0 W R h h1 h2 h3 hsz)
  clear S R IH
  go_enter Tryz.func260, Tryz.ntmps260
  go_wp2_with fail
  go_loopg [1, 2, 3, 8, 9] (b0 - a0) (fun kx sa sb sl s8 s9 wr => ∃ (a b : Nat) (l : Int) (t8 t9 : Bool), sa = .int .i64 a ∧ sb = .int .i64 b ∧ sl = .int .i64 l ∧ s8 = .bool t8 ∧ s9 = .bool t9 ∧ a0 ≤ a ∧ a ≤ b ∧ b ≤ b0 ∧ b - a ≤ kx ∧ Aside (Srt w0 blk off d0 wr))
  case atStart => exact ⟨a0, b0, l0, true, true, rfl, rfl, rfl, rfl, rfl, by omega, hab0, by omega, by omega, S0⟩
  case round =>
    clear S0
    obtain ⟨a, b, l, t8, t9, rfl, rfl, rfl, rfl, rfl, haa, hab, hbb, hkx, S1⟩ := hrel
    have hbd : b ≤ d0.size := by omega
    obtain ⟨L, hL⟩ : ∃ L, b = a + L := ⟨b - a, by omega⟩
    have tL : (b : Int) - (a : Int) = (L : Int) := by omega
    have wL : IntKind.i64.wrap (L : Int) = (L : Int) := by rw [IntKind.wrap_i64]; omega
    have hab2 : a + L ≤ b := by omega
    have hab3 : b ≤ a + L := by omega
    clear hL
    by_cases h12 : L ≤ 12
    · have h12z : (L : Int) ≤ 12 := by omega
      have K := KIns.out wr a b S1.out hab hbd
      clear S1
      go_wp2_with fail
      refine K.mono ?_
      rintro e wz ⟨rfl, S3⟩
      clear K
      go_wp2_with fail
      refine bodyPost_ret (results_none rfl _ _ _) rfl ?_
      exact ⟨rfl, S3⟩
    · have h12z : ¬ (L : Int) ≤ 12 := by omega
      by_cases hl0 : l = 0
      · have K := KHeap.out wr a b S1.out (by omega) hbd
        clear S1
        subst hl0
        go_wp2_with fail
        refine K.mono ?_
        rintro e wz ⟨rfl, S3⟩
        clear K
        go_wp2_with fail
        refine bodyPost_ret (results_none rfl _ _ _) rfl ?_
        exact ⟨rfl, S3⟩
      · have hl0b : (l == 0) = false := by simpa using hl0
        go_upto_if 35 with (fail)
        go_cut [3] from 19 to 133 (fun s3 wx => (∃ l : Int, s3 = .int .i64 l) ∧ Aside (Srt w0 blk off d0 wx))
        case first =>
          cases t8 with
          | true =>
            go_wp2_with fail
            go_meet
            exact ⟨⟨l, rfl⟩, S1⟩
          | false =>
            have K := KBreak.out wr a b S1.out (by omega) hbd
            clear S1
            go_wp2_with fail
            refine K.mono ?_
            rintro e wz ⟨rfl, S3⟩
            clear K
            go_wp2_with fail
            go_meet
            exact ⟨⟨_, rfl⟩, S3⟩
        case rest =>
          clear S1 hl0b hl0
          obtain ⟨⟨l, rfl⟩, S1⟩ := hcut
          have K := KPiv.out wc a b S1.out (by omega) hbd
          clear S1
          go_wp2_with fail
          refine K.mono ?_
          rintro e wq ⟨x0, h0, rfl, hax0, hxb0, S3⟩
          have S1 : Aside (Srt w0 blk off d0 wq) := S3
          clear K S3
          go_upto_if 50 with (fail)
          go_cut [11, 12] from 19 to 133 (fun s11 s12 wx => ∃ (x : Nat) (h : Int), s11 = .int .i64 x ∧ s12 = .int .i64 h ∧ a ≤ x ∧ x < b ∧ Aside (Srt w0 blk off d0 wx))
          case first =>
            by_cases h2 : h0 = 2
            · subst h2
              have K := KRev.out wq a b S1.out (by omega) hbd
              obtain ⟨bm, hbm⟩ : ∃ bm, b = bm + 1 := ⟨b - 1, by omega⟩
              obtain ⟨xa, hxa⟩ : ∃ xa, x0 = a + xa := ⟨x0 - a, by omega⟩
              obtain ⟨y, hy⟩ : ∃ y, bm = xa + y := ⟨bm - xa, by omega⟩
              have tb : (b : Int) - 1 = (bm : Int) := by omega
              have tx : (x0 : Int) - (a : Int) = (xa : Int) := by omega
              have ty : (bm : Int) - (xa : Int) = (y : Int) := by omega
              have wb : IntKind.i64.wrap (bm : Int) = (bm : Int) := by rw [IntKind.wrap_i64]; omega
              have wx : IntKind.i64.wrap (xa : Int) = (xa : Int) := by rw [IntKind.wrap_i64]; omega
              have wy : IntKind.i64.wrap (y : Int) = (y : Int) := by rw [IntKind.wrap_i64]; omega
              have HY : Hid (a ≤ y ∧ y < b) := ⟨by omega, by omega⟩
              clear S1 hbm hxa hy
              go_wp2_with fail
              refine K.mono ?_
              rintro e wz ⟨rfl, S3⟩
              clear K
              go_wp2_with fail
              go_meet
              exact ⟨y, _, rfl, rfl, HY.out.1, HY.out.2, S3⟩
            · have h2b : (h0 == 2) = false := by simpa using h2
              go_wp2_with fail
              go_meet
              exact ⟨x0, h0, rfl, rfl, hax0, hxb0, S1⟩
          case rest =>
            clear S1 hax0 hxb0
            obtain ⟨x, h, rfl, rfl, hax, hxb, S1⟩ := hcut
            go_upto_region 15 with (fail)
            go_cut [68] from 19 to 133 (fun s68 wx => (∃ c : Bool, s68 = .bool c) ∧ wx = wc)
            case first =>
              cases t8 <;> cases t9 <;> by_cases h1 : h = 1 <;> (try subst h1) <;> (try have h1b : (h == 1) = false := by simpa using h1)
              all_goals go_wp2_with (fail)
              all_goals go_meet
              all_goals exact ⟨⟨_, rfl⟩, rfl⟩
            case rest =>
              obtain ⟨⟨c, rfl⟩, rfl⟩ := hcut
              cases c with
              | true =>
                have K := KPins.out _ a b S1.out (by omega) hbd
                clear S1
                go_wp2_with fail
                refine K.mono ?_
                rintro e wz ⟨t, rfl, S3⟩
                have S1 : Aside (Srt w0 blk off d0 wz) := S3
                clear K S3
                cases t with
                | true =>
                  go_wp2_with fail
                  refine bodyPost_ret (results_none rfl _ _ _) rfl ?_
                  exact ⟨rfl, S1.out⟩
                | false =>
                  go_wp2_with fail
                  by_cases ha0 : 0 < a
                  · obtain ⟨am, hae⟩ : ∃ am, a = am + 1 := ⟨a - 1, by omega⟩
                    have ha0z : (0 : Int) < (a : Int) := by omega
                    have tam : (a : Int) - 1 = (am : Int) := by omega
                    have wam : IntKind.i64.wrap (am : Int) = (am : Int) := by rw [IntKind.wrap_i64]; omega
                    have nam : am < d0.size := by omega
                    have nx : x < d0.size := by omega
                    have bam : (am : Int) < (d0.size : Int) := by omega
                    have bx : (x : Int) < (d0.size : Int) := by omega
                    have HA : Hid (a = am + 1) := hae
                    clear hae
                    obtain ⟨G, hcw, hfw, HW⟩ := S1.out.fam HR.out
                    have cam := hcw am nam
                    have cx := hcw x nx
                    clear hcw hfw HW
                    go_wp2_with fail
                    go_quiet (first | (go_at_call 268; refine Calls.quiet_of_same (less_w _ _ _)))
                    have S2 : Aside (Srt w0 blk off d0 (wz.drewN nq)) := S1.out.drewN nq
                    clear S1 cam cx
                    generalize wz.drewN nq = wv at S2 ⊢
                    have S1 := S2
                    clear S2
                    go_wp2_with fail
                    · have KE := KEq.out wv a b x S1.out hax hxb hbd
                      clear S1
                      go_wp2_with fail
                      refine KE.mono ?_
                      rintro e wz ⟨m, rfl, h1, h2, S3⟩
                      have S1 : Aside (Srt w0 blk off d0 wz) := S3
                      clear KE S3
                      go_wp2_with fail
                      go_roundg (b - m)
                      case measure => omega
                      case rel => exact ⟨m, b, l, _, _, rfl, rfl, rfl, rfl, rfl, by omega, h2, hbb, by omega, S1⟩
                    · have KP := KPart.out wv a b x S1.out hax hxb hbd
                      clear S1
                      go_wp2_with fail
                      refine KP.mono ?_
                      rintro e wp ⟨m, t, rfl, ham, hmb, S3⟩
                      have S1 : Aside (Srt w0 blk off d0 wp) := S3
                      obtain ⟨lL, hlL⟩ : ∃ lL, a + lL = m := ⟨m - a, by omega⟩
                      obtain ⟨rL, hrL⟩ : ∃ rL, m + rL = b := ⟨b - m, by omega⟩
                      have tl1 : (m : Int) - (a : Int) = (lL : Int) := by omega
                      have tl2 : (b : Int) - (m : Int) = (rL : Int) := by omega
                      have wl1 : IntKind.i64.wrap (lL : Int) = (lL : Int) := by rw [IntKind.wrap_i64]; omega
                      have wl2 : IntKind.i64.wrap (rL : Int) = (rL : Int) := by rw [IntKind.wrap_i64]; omega
                      have wm1 : IntKind.i64.wrap ((m : Int) + 1) = (m : Int) + 1 := by rw [IntKind.wrap_i64]; omega
                      clear KP S3 hlL hrL
                      by_cases hlr : lL < rL
                      · have hlrz : (lL : Int) < (rL : Int) := by omega
                        have K2 := KI.out a m l wp (by omega) ham (by omega) S1.out
                        clear S1
                        go_wp2_with fail
                        refine K2.mono ?_
                        rintro e wz ⟨rfl, S3⟩
                        clear K2
                        go_wp2_with fail
                        go_roundg (b - (m + 1))
                        case measure => omega
                        case rel => exact ⟨m + 1, b, l, _, _, by go_num, rfl, rfl, rfl, rfl, by omega, by omega, hbb, by omega, S3⟩
                      · have hlrz : ¬ (lL : Int) < (rL : Int) := by omega
                        have K2 := KI.out (m + 1) b l wp (by omega) (by omega) hbd S1.out
                        clear S1
                        go_wp2_with fail
                        refine K2.mono ?_
                        rintro e wz ⟨rfl, S3⟩
                        clear K2
                        go_wp2_with fail
                        go_roundg (m - a)
                        case measure => omega
                        case rel => exact ⟨a, m, l, _, _, rfl, rfl, rfl, rfl, rfl, by omega, ham, by omega, by omega, S3⟩
                  · have ha0z : decide ((0 : Int) < (a : Int)) = false := by simp; omega
                    go_wp2_with fail
                    go_quiet (first | (go_at_call 268; refine Calls.quiet_of_same (less_w _ _ _)))
                    have S2 : Aside (Srt w0 blk off d0 (wz.drewN nq)) := S1.out.drewN nq
                    clear S1
                    generalize wz.drewN nq = wv at S2 ⊢
                    have S1 := S2
                    clear S2
                    go_wp2_with fail
                    have KP := KPart.out wv a b x S1.out hax hxb hbd
                    clear S1
                    go_wp2_with fail
                    refine KP.mono ?_
                    rintro e wp ⟨m, t, rfl, ham, hmb, S3⟩
                    have S1 : Aside (Srt w0 blk off d0 wp) := S3
                    obtain ⟨lL, hlL⟩ : ∃ lL, a + lL = m := ⟨m - a, by omega⟩
                    obtain ⟨rL, hrL⟩ : ∃ rL, m + rL = b := ⟨b - m, by omega⟩
                    have tl1 : (m : Int) - (a : Int) = (lL : Int) := by omega
                    have tl2 : (b : Int) - (m : Int) = (rL : Int) := by omega
                    have wl1 : IntKind.i64.wrap (lL : Int) = (lL : Int) := by rw [IntKind.wrap_i64]; omega
                    have wl2 : IntKind.i64.wrap (rL : Int) = (rL : Int) := by rw [IntKind.wrap_i64]; omega
                    have wm1 : IntKind.i64.wrap ((m : Int) + 1) = (m : Int) + 1 := by rw [IntKind.wrap_i64]; omega
                    clear KP S3 hlL hrL
                    by_cases hlr : lL < rL
                    · have hlrz : (lL : Int) < (rL : Int) := by omega
                      have K2 := KI.out a m l wp (by omega) ham (by omega) S1.out
                      clear S1
                      go_wp2_with fail
                      refine K2.mono ?_
                      rintro e wz ⟨rfl, S3⟩
                      clear K2
                      go_wp2_with fail
                      go_roundg (b - (m + 1))
                      case measure => omega
                      case rel => exact ⟨m + 1, b, l, _, _, by go_num, rfl, rfl, rfl, rfl, by omega, by omega, hbb, by omega, S3⟩
                    · have hlrz : ¬ (lL : Int) < (rL : Int) := by omega
                      have K2 := KI.out (m + 1) b l wp (by omega) (by omega) hbd S1.out
                      clear S1
                      go_wp2_with fail
                      refine K2.mono ?_
                      rintro e wz ⟨rfl, S3⟩
                      clear K2
                      go_wp2_with fail
                      go_roundg (m - a)
                      case measure => omega
                      case rel => exact ⟨a, m, l, _, _, rfl, rfl, rfl, rfl, rfl, by omega, ham, by omega, by omega, S3⟩
              | false =>
                go_wp2_with fail
                by_cases ha0 : 0 < a
                · obtain ⟨am, hae⟩ : ∃ am, a = am + 1 := ⟨a - 1, by omega⟩
                  have ha0z : (0 : Int) < (a : Int) := by omega
                  have tam : (a : Int) - 1 = (am : Int) := by omega
                  have wam : IntKind.i64.wrap (am : Int) = (am : Int) := by rw [IntKind.wrap_i64]; omega
                  have nam : am < d0.size := by omega
                  have nx : x < d0.size := by omega
                  have bam : (am : Int) < (d0.size : Int) := by omega
                  have bx : (x : Int) < (d0.size : Int) := by omega
                  have HA : Hid (a = am + 1) := hae
                  clear hae
                  obtain ⟨G, hcw, hfw, HW⟩ := S1.out.fam HR.out
                  have cam := hcw am nam
                  have cx := hcw x nx
                  clear hcw hfw HW
                  go_wp2_with fail
                  go_quiet (first | (go_at_call 268; refine Calls.quiet_of_same (less_w _ _ _)))
                  have S2 : Aside (Srt w0 blk off d0 (wc.drewN nq)) := S1.out.drewN nq
                  clear S1 cam cx
                  generalize wc.drewN nq = wv at S2 ⊢
                  have S1 := S2
                  clear S2
                  go_wp2_with fail
                  · have KE := KEq.out wv a b x S1.out hax hxb hbd
                    clear S1
                    go_wp2_with fail
                    refine KE.mono ?_
                    rintro e wz ⟨m, rfl, h1, h2, S3⟩
                    have S1 : Aside (Srt w0 blk off d0 wz) := S3
                    clear KE S3
                    go_wp2_with fail
                    go_roundg (b - m)
                    case measure => omega
                    case rel => exact ⟨m, b, l, _, _, rfl, rfl, rfl, rfl, rfl, by omega, h2, hbb, by omega, S1⟩
                  · have KP := KPart.out wv a b x S1.out hax hxb hbd
                    clear S1
                    go_wp2_with fail
                    refine KP.mono ?_
                    rintro e wp ⟨m, t, rfl, ham, hmb, S3⟩
                    have S1 : Aside (Srt w0 blk off d0 wp) := S3
                    obtain ⟨lL, hlL⟩ : ∃ lL, a + lL = m := ⟨m - a, by omega⟩
                    obtain ⟨rL, hrL⟩ : ∃ rL, m + rL = b := ⟨b - m, by omega⟩
                    have tl1 : (m : Int) - (a : Int) = (lL : Int) := by omega
                    have tl2 : (b : Int) - (m : Int) = (rL : Int) := by omega
                    have wl1 : IntKind.i64.wrap (lL : Int) = (lL : Int) := by rw [IntKind.wrap_i64]; omega
                    have wl2 : IntKind.i64.wrap (rL : Int) = (rL : Int) := by rw [IntKind.wrap_i64]; omega
                    have wm1 : IntKind.i64.wrap ((m : Int) + 1) = (m : Int) + 1 := by rw [IntKind.wrap_i64]; omega
                    clear KP S3 hlL hrL
                    by_cases hlr : lL < rL
                    · have hlrz : (lL : Int) < (rL : Int) := by omega
                      have K2 := KI.out a m l wp (by omega) ham (by omega) S1.out
                      clear S1
                      go_wp2_with fail
                      refine K2.mono ?_
                      rintro e wz ⟨rfl, S3⟩
                      clear K2
                      go_wp2_with fail
                      go_roundg (b - (m + 1))
                      case measure => omega
                      case rel => exact ⟨m + 1, b, l, _, _, by go_num, rfl, rfl, rfl, rfl, by omega, by omega, hbb, by omega, S3⟩
                    · have hlrz : ¬ (lL : Int) < (rL : Int) := by omega
                      have K2 := KI.out (m + 1) b l wp (by omega) (by omega) hbd S1.out
                      clear S1
                      go_wp2_with fail
                      refine K2.mono ?_
                      rintro e wz ⟨rfl, S3⟩
                      clear K2
                      go_wp2_with fail
                      go_roundg (m - a)
                      case measure => omega
                      case rel => exact ⟨a, m, l, _, _, rfl, rfl, rfl, rfl, rfl, by omega, ham, by omega, by omega, S3⟩
                · have ha0z : decide ((0 : Int) < (a : Int)) = false := by simp; omega
                  go_wp2_with fail
                  go_quiet (first | (go_at_call 268; refine Calls.quiet_of_same (less_w _ _ _)))
                  have S2 : Aside (Srt w0 blk off d0 (wc.drewN nq)) := S1.out.drewN nq
                  clear S1
                  generalize wc.drewN nq = wv at S2 ⊢
                  have S1 := S2
                  clear S2
                  go_wp2_with fail
                  have KP := KPart.out wv a b x S1.out hax hxb hbd
                  clear S1
                  go_wp2_with fail
                  refine KP.mono ?_
                  rintro e wp ⟨m, t, rfl, ham, hmb, S3⟩
                  have S1 : Aside (Srt w0 blk off d0 wp) := S3
                  obtain ⟨lL, hlL⟩ : ∃ lL, a + lL = m := ⟨m - a, by omega⟩
                  obtain ⟨rL, hrL⟩ : ∃ rL, m + rL = b := ⟨b - m, by omega⟩
                  have tl1 : (m : Int) - (a : Int) = (lL : Int) := by omega
                  have tl2 : (b : Int) - (m : Int) = (rL : Int) := by omega
                  have wl1 : IntKind.i64.wrap (lL : Int) = (lL : Int) := by rw [IntKind.wrap_i64]; omega
                  have wl2 : IntKind.i64.wrap (rL : Int) = (rL : Int) := by rw [IntKind.wrap_i64]; omega
                  have wm1 : IntKind.i64.wrap ((m : Int) + 1) = (m : Int) + 1 := by rw [IntKind.wrap_i64]; omega
                  clear KP S3 hlL hrL
                  by_cases hlr : lL < rL
                  · have hlrz : (lL : Int) < (rL : Int) := by omega
                    have K2 := KI.out a m l wp (by omega) ham (by omega) S1.out
                    clear S1
                    go_wp2_with fail
                    refine K2.mono ?_
                    rintro e wz ⟨rfl, S3⟩
                    clear K2
                    go_wp2_with fail
                    go_roundg (b - (m + 1))
                    case measure => omega
                    case rel => exact ⟨m + 1, b, l, _, _, by go_num, rfl, rfl, rfl, rfl, by omega, by omega, hbb, by omega, S3⟩
                  · have hlrz : ¬ (lL : Int) < (rL : Int) := by omega
                    have K2 := KI.out (m + 1) b l wp (by omega) (by omega) hbd S1.out
                    clear S1
                    go_wp2_with fail
                    refine K2.mono ?_
                    rintro e wz ⟨rfl, S3⟩
                    clear K2
                    go_wp2_with fail
                    go_roundg (m - a)
                    case measure => omega
                    case rel => exact ⟨a, m, l, _, _, rfl, rfl, rfl, rfl, rfl, by omega, ham, by omega, by omega, S3⟩
end Go.Proofs.YtlhpbfjelgmkeaaGreat.Dig
