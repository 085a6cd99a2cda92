/- Contracts of talusref02.Runs and Unruns. Conditions: small lists. -/
import Derived.Test.YtknghmcdnlkfcaaMRefDeltas
import Derived.Test.YtknghmcdnlkfcaaPackAY
import Derived.Test.YtknghmcdnlkfcaaPackBD
set_option maxRecDepth 100000
namespace Go.Proofs.Ytknghmcdnlkfcaa
open Go.RowKit Go.Maps Go.Sort

set_option maxHeartbeats 1600000 in
theorem refRuns_any {w : World} {v : Value} {l : List UInt64} (h : Holds w v (u64s l)) (hl : l.length ≤ 1000000) :
    Calls Try.prog 33 #[v] w fun e w' => ∃ v', e = .returned v' ∧ Hid (Holds w' v' (u8s (runsB (runsOf l))) ∧ Below w.heap.size w w') := by
  obtain ⟨a, c, hv, hc⟩ := h.form
  rw [u64s_len] at hv hc
  subst hv
  have H := Lib.hid h
  obtain ⟨ln, hln⟩ : ∃ n, n = l.length := ⟨_, rfl⟩
  rw [← hln] at H hl hc ⊢
  have HN := Lib.hid hln
  clear h hln
  go_enter Try.func33, Try.ntmps33
  go_wp2_with fail
  go_loopw [3, 4] (fun b i wr => ∃ (k : Nat) (ys : List UInt8), k ≤ ln ∧ i = .int .i64 k ∧ Hid (ys ++ runsB (runsOf (l.drop k)) = runsB (runsOf l) ∧ ys.length ≤ 20 * k ∧ Holds wr b (u8s ys) ∧ Below w.heap.size w wr)) (fun _ i _ => ln - (intOf i).toNat)
  case atStart => exact ⟨0, [], by omega, rfl, rfl, by simp, Holds.nil _, Below.refl _ _⟩
  case round =>
    obtain ⟨k, ys, hk, rfl, HR⟩ := hrel
    by_cases hlt : k < ln
    · have hal : k < l.length := by rw [← HN.out]; exact hlt
      obtain ⟨ad, rfl⟩ := H.out.ptr (by omega)
      have HV := Lib.hid (H.out.below HR.out.2.2.2)
      have hca : wr.cell? (ad.add k) = some (.int .u64 (l[k].toNat : Int)) := HV.out.cell (by simp [u64s, hal])
      obtain ⟨ua, hua⟩ : ∃ u, u = l[k] := ⟨_, rfl⟩
      rw [← hua] at hca
      have hbd := ua.toNat_lt
      have HUA := Lib.hid hua
      have t0 : decide ((k : Int) < (ln : Int)) = true := decide_eq_true (by omega)
      clear hua
      go_wp2_with fail
      go_loopw [5] (fun d X => ∃ e n : Nat, d = .int .i64 (e : Int) ∧ k ≤ e ∧ e ≤ ln ∧ Hid (X = wr.drewN n ∧ ∀ (i : Nat) (hi : i < l.length), k ≤ i → i < e → l[i] = ua)) (fun d _ => ln - (intOf d).toNat)
      case atStart => exact ⟨k, 0, rfl, Nat.le_refl _, by omega, rfl, fun i _ h1 h2 => by omega⟩
      case round =>
        obtain ⟨e, n, rfl, hae, hel, HE⟩ := hrel
        obtain ⟨rfl, hsame⟩ := HE.out
        have HS := Lib.hid hsame
        clear hsame HE
        by_cases hgo : ∃ h : e < l.length, l[e] = ua
        · obtain ⟨hlt2, heq⟩ := hgo
          have hce : wr.cell? (ad.add e) = some (.int .u64 (l[e].toNat : Int)) := HV.out.cell (by simp [u64s, hlt2])
          rw [heq] at hce
          have hlt3 : e < ln := by rw [HN.out]; exact hlt2
          have t1 : decide ((e : Int) < (ln : Int)) = true := decide_eq_true (by omega)
          have HQ := Lib.hid heq
          clear heq
          generalize ua.toNat = xa at *
          go_wp2_with fail
          go_quiet (fail)
          go_wp2_with fail
          go_roundw
          case rel => exact ⟨e + 1, _, by go_num, by omega, by omega, rfl, fun i h0 h1 h2 => by
            by_cases hie : i = e
            · subst hie; exact HQ.out
            · exact HS.out i h0 h1 (by omega)⟩
          case measure => simp [intOf]; omega
        · have hke : k < e := by
            rcases Nat.lt_or_ge k e with g | g
            · exact g
            · have : e = k := by omega
              subst this
              exact absurd ⟨hal, HUA.out.symm⟩ hgo
          have hr := runs_at l k e hke (by rw [← HN.out]; exact hel) (fun i h1 h2 => (HS.out i (by have := HN.out; omega) h1 h2).trans HUA.out) (fun h he => hgo ⟨h, he.trans HUA.out.symm⟩)
          have e3 : ((e - k : Nat) : Int) = (e : Int) - (k : Int) := by omega
          have HE2 : Hid (ys ++ dig ua.toNat ++ dig (e - k) ++ runsB (runsOf (l.drop e)) = runsB (runsOf l)) := Lib.hid (by
            rw [← HR.out.1, hr, ← HUA.out]
            simp [runsB])
          have KP := Lib.hid (fun n => refPut_any (HR.out.2.2.1.drewN n) ua.toNat hbd (by have := HR.out.2.1; omega))
          clear hr
          by_cases hlt2 : e < l.length
          · have hce : wr.cell? (ad.add e) = some (.int .u64 (l[e].toNat : Int)) := HV.out.cell (by simp [u64s, hlt2])
            have hlt3 : e < ln := by rw [HN.out]; exact hlt2
            have t1 : decide ((e : Int) < (ln : Int)) = true := decide_eq_true (by omega)
            have t2 : (((l[e].toNat : Nat) : Int) == ((ua.toNat : Nat) : Int)) = false := by
              rw [beq_eq_false_iff_ne]
              intro h
              exact hgo ⟨hlt2, UInt64.toNat_inj.1 (by omega)⟩
            clear hgo
            generalize l[e].toNat = xe at *
            clear hlt2
            go_wp2_with fail
            go_quiet (fail)
            go_wp2_with fail
            refine (KP.out _).mono ?_
            rintro r w2 ⟨v2, rfl, o2, b2⟩
            have O2 := Lib.hid (Holds.of_row (base := wr.heap.size) (e := 5) (xs := u8s (ys ++ dig ua.toNat)) (by rw [u8s_len]; exact o2))
            have B2 := Lib.hid ((below_drew HR.out.2.2.2 _).trans (b2.mono HR.out.2.2.2.size))
            have KQ := Lib.hid (refPut_any O2.out (e - k) (by omega) (by have := HR.out.2.1; have := dig_len10 hbd; simp; omega))
            rw [e3] at KQ
            clear o2 b2
            go_wp2_with fail
            refine KQ.out.mono ?_
            rintro r w3 ⟨v3, rfl, o3, b3⟩
            have O3 := Lib.hid (Holds.of_row (base := w2.heap.size) (e := 5) (xs := u8s (ys ++ dig ua.toNat ++ dig (e - k))) (by rw [u8s_len]; exact o3))
            have B3 := Lib.hid (B2.out.trans (b3.mono B2.out.size))
            clear o3 b3
            go_wp2_with fail
            go_roundw
            case rel => exact ⟨e, _, hel, rfl, HE2.out, by have := HR.out.2.1; have := dig_len10 hbd; have := dig_len10 (show e - k < 18446744073709551616 by omega); simp only [List.length_append]; omega, O3.out, B3.out⟩
            case measure => simp [intOf]; omega
          · have t1 : decide (e < ln) = false := decide_eq_false (by rw [← HN.out] at hlt2; omega)
            clear hlt2
            clear hgo
            go_wp2_with fail
            go_quiet (fail)
            go_wp2_with fail
            refine (KP.out _).mono ?_
            rintro r w2 ⟨v2, rfl, o2, b2⟩
            have O2 := Lib.hid (Holds.of_row (base := wr.heap.size) (e := 5) (xs := u8s (ys ++ dig ua.toNat)) (by rw [u8s_len]; exact o2))
            have B2 := Lib.hid ((below_drew HR.out.2.2.2 _).trans (b2.mono HR.out.2.2.2.size))
            have KQ := Lib.hid (refPut_any O2.out (e - k) (by omega) (by have := HR.out.2.1; have := dig_len10 hbd; simp; omega))
            rw [e3] at KQ
            clear o2 b2
            go_wp2_with fail
            refine KQ.out.mono ?_
            rintro r w3 ⟨v3, rfl, o3, b3⟩
            have O3 := Lib.hid (Holds.of_row (base := w2.heap.size) (e := 5) (xs := u8s (ys ++ dig ua.toNat ++ dig (e - k))) (by rw [u8s_len]; exact o3))
            have B3 := Lib.hid (B2.out.trans (b3.mono B2.out.size))
            clear o3 b3
            go_wp2_with fail
            go_roundw
            case rel => exact ⟨e, _, hel, rfl, HE2.out, by have := HR.out.2.1; have := dig_len10 hbd; have := dig_len10 (show e - k < 18446744073709551616 by omega); simp only [List.length_append]; omega, O3.out, B3.out⟩
            case measure => simp [intOf]; omega
    · have t0 : decide ((k : Int) < (ln : Int)) = false := decide_eq_false (by omega)
      have e := HR.out.1
      rw [List.drop_eq_nil_of_le (by rw [← HN.out]; omega), show runsB (runsOf []) = [] from rfl, List.append_nil] at e
      have E := Lib.hid e
      clear e
      go_wp2_with fail
      go_ret
      rw [← E.out]
      exact ⟨_, rfl, HR.out.2.2⟩
end Go.Proofs.Ytknghmcdnlkfcaa
