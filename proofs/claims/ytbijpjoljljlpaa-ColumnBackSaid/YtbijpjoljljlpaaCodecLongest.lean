/- Contracts of codec.longest and its iterator: the longest runs of one number. Conditions: small lists. -/
import Derived.Test.YtbijpjoljljlpaaRangeOps
import Derived.Test.YtbijpjoljljlpaaTells
import Derived.Sort.QuietTacIn
import Derived.Sort.BigQuietIn
import Derived.Outline
set_option maxRecDepth 100000
namespace Go.Proofs.Ytbijpjoljljlpaa
open Go.RowKit Go.Maps Go.Sort
attribute [local go_sem] Oper.semAt_some

/-- the longest runs of one number -/
def runsOf : List UInt64 → List (UInt64 × Nat)
  | [] => []
  | u :: r => match runsOf r with
    | [] => [(u, 1)]
    | (v, n) :: t => if v = u then (u, n + 1) :: t else (u, 1) :: (v, n) :: t
theorem runs_head (u : UInt64) (r : List UInt64) : ∃ n t, runsOf (u :: r) = (u, n) :: t := by
  rw [runsOf]
  split
  · exact ⟨1, [], rfl⟩
  · split
    · exact ⟨_, _, rfl⟩
    · exact ⟨_, _, rfl⟩
theorem runs_rep (u : UInt64) (rest : List UInt64) (h : ∀ x r, rest = x :: r → x ≠ u) (k : Nat) : runsOf (List.replicate (k + 1) u ++ rest) = (u, k + 1) :: runsOf rest := by
  induction k with
  | zero =>
    show runsOf (u :: rest) = _
    rw [runsOf]
    cases rest with
    | nil => rfl
    | cons x r =>
      obtain ⟨n, t, e⟩ := runs_head x r
      rw [e]
      simp only
      rw [if_neg (h x r rfl)]
  | succ k ih =>
    rw [List.replicate_succ, List.cons_append, runsOf, ih]
    simp
theorem runs_at (l : List UInt64) (a e : Nat) (ha : a < e) (he : e ≤ l.length) (hsame : ∀ i, a ≤ i → (hi : i < e) → l[i] = l[a]) (hend : ∀ h : e < l.length, l[e] ≠ l[a]) :
    runsOf (l.drop a) = (l[a], e - a) :: runsOf (l.drop e) := by
  have h1 : l.drop a = List.replicate (e - a - 1 + 1) l[a] ++ l.drop e := by
    apply List.ext_getElem
    · simp; omega
    · intro i h2 h3
      rw [List.getElem_drop]
      by_cases hi : a + i < e
      · rw [List.getElem_append_left (by simp; omega), List.getElem_replicate]
        exact hsame _ (by omega) hi
      · rw [List.getElem_append_right (by simp; omega), List.getElem_drop]
        congr 1
        simp
        omega
  rw [h1, runs_rep, show e - a - 1 + 1 = e - a by omega]
  intro x r hx
  have hlt : e < l.length := by
    rcases Nat.lt_or_ge e l.length with g | g
    · exact g
    · rw [List.drop_eq_nil_of_le g] at hx; cases hx
  rw [List.drop_eq_getElem_cons hlt] at hx
  injection hx with h4 h5
  rw [← h4]
  exact hend hlt

def runE (p : UInt64 × Nat) : Array Value := #[.int .u64 (p.1.toNat : Int), .int .i64 (p.2 : Int)]
def runsE (l : List UInt64) : List (Array Value) := (runsOf l).map runE
theorem runsE_at {l : List UInt64} {a k : Nat} {p : UInt64 × Nat} {t : List (UInt64 × Nat)} (h : (runsOf l).drop k = runsOf (l.drop a)) (hr : runsOf (l.drop a) = p :: t) : ∃ hk : k < (runsE l).length, (runsE l)[k] = runE p ∧ (runsOf l).drop (k + 1) = t := by
  rw [hr] at h
  have hk : k < (runsOf l).length := by
    rcases Nat.lt_or_ge k (runsOf l).length with g | g
    · exact g
    · rw [List.drop_eq_nil_of_le g] at h; cases h
  rw [List.drop_eq_getElem_cons hk] at h
  injection h with h1 h2
  exact ⟨by simpa [runsE] using hk, by simp [runsE, h1], h2⟩

def longR (bl : Nat) (l : List UInt64) (W : World) : Prop := ∃ v, W.cell? ⟨bl, 0, none⟩ = some v ∧ Holds W v (u64s l)

theorem drewN_of {J : Nat → World → Prop} (h : ∀ k X, J k X → J k X.drew) (k : Nat) (X : World) (n : Nat) (hj : J k X) : J k (X.drewN n) := by
  induction n with
  | zero => exact hj
  | succ n ih => exact h k _ ih

set_option maxHeartbeats 1600000 in
theorem longest_seq (bl : Nat) (l : List UInt64) (hl : l.length ≤ 1000000) : SeqIs Try.prog 59 #[.pointer (some ⟨bl, 0, none⟩)] (runsE l) (longR bl l) := by
  intro q J W hR hdr hY h0
  have HR := Lib.hid hR
  have HY := Lib.hid hY
  have HD := Lib.hid hdr
  have H0 := Lib.hid h0
  obtain ⟨ln, hln⟩ : ∃ n, n = l.length := ⟨_, rfl⟩
  rw [← hln] at hl
  have HN := Lib.hid hln
  clear hR hY h0 hdr hln
  refine callsIn_of_wp Try.func59 rfl trivial ?_ rfl
  simp only [Try.ntmps59, List.size_toArray, List.length_cons, List.length_nil, Nat.reduceAdd, Nat.reduceSub, Array.replicate_succ, Array.replicate_zero, List.push_toArray, List.append_toArray, List.nil_append, List.cons_append]
  gi_wp2
  gi_loopw [3] (fun d wr => ∃ k a : Nat, d = .int .i64 (a : Int) ∧ a ≤ ln ∧ k ≤ (runsE l).length ∧ Hid ((runsOf l).drop k = runsOf (l.drop a) ∧ J k wr)) (fun d _ => ln - (intOf d).toNat)
  case atStart => exact ⟨0, 0, rfl, by omega, by omega, rfl, H0.out⟩
  case round =>
    obtain ⟨k, a, rfl, ha, hkl, HK⟩ := hrel
    obtain ⟨v, c1, hv⟩ := HR.out k _ HK.out.2
    obtain ⟨sa, sc, rfl, hsc⟩ := hv.form
    rw [u64s_len, ← HN.out] at c1 hv hsc
    have HK2 := Lib.hid hkl
    clear hkl
    by_cases hlt : a < ln
    · have hal : a < l.length := by rw [← HN.out]; exact hlt
      obtain ⟨ad, rfl⟩ := hv.ptr (by omega)
      have hca : wr.cell? (ad.add a) = some (.int .u64 (l[a].toNat : Int)) := hv.cell (by simp [u64s, hal])
      have HV := Lib.hid hv
      clear hv
      obtain ⟨ua, hua⟩ : ∃ u, u = l[a] := ⟨_, rfl⟩
      rw [← hua] at hca
      have hbd := ua.toNat_lt
      have HUA := Lib.hid hua
      have t0 : decide (a < ln) = true := decide_eq_true hlt
      clear hua
      gi_wp2
      gi_loopw [4] (fun d X => ∃ e n : Nat, d = .int .i64 (e : Int) ∧ a < e ∧ e ≤ ln ∧ Hid (X = wr.drewN n ∧ ∀ (i : Nat) (hi : i < l.length), a ≤ i → i < e → l[i] = ua)) (fun d _ => ln - (intOf d).toNat)
      case atStart => exact ⟨a + 1, 0, by go_num, by omega, by omega, rfl, fun i _ h1 h2 => by rw [HUA.out]; congr 1; omega⟩
      case round =>
        obtain ⟨e, n, rfl, hae, hel, HE⟩ := hrel
        obtain ⟨rfl, hsame⟩ := HE.out
        have HS := Lib.hid hsame
        clear hsame HE
        by_cases hgo : ∃ h : e < l.length, l[e] = ua
        · obtain ⟨hlt2, heq⟩ := hgo
          have hce : wr.cell? (ad.add e) = some (.int .u64 (l[e].toNat : Int)) := HV.out.cell (by simp [u64s, hlt2])
          rw [heq] at hce
          have t1 : decide (e < ln) = true := decide_eq_true (by rw [HN.out]; exact hlt2)
          have HQ := Lib.hid heq
          clear heq
          have hlt3 : e < ln := of_decide_eq_true t1
          generalize ua.toNat = xa at *
          gi_wp2
          gi_big_quiet_th (fail)
          gi_wp2
          go_roundw
          case rel => exact ⟨e + 1, _, by go_num, by omega, by omega, rfl, fun i h0 h1 h2 => by
            by_cases hie : i = e
            · subst hie; exact HQ.out
            · exact HS.out i h0 h1 (by omega)⟩
          case measure => simp [intOf]; omega
        · have hr := runs_at l a e hae (by rw [← HN.out]; exact hel) (fun i h1 h2 => (HS.out i (by have := HN.out; omega) h1 h2).trans HUA.out) (fun h he => hgo ⟨h, he.trans HUA.out.symm⟩)
          obtain ⟨hk, e1, e2⟩ := runsE_at HK.out.1 hr
          have HJ := Lib.hid (fun m => drewN_of HD.out k wr m HK.out.2)
          rw [← HUA.out] at e1
          have e3 : ((e - a : Nat) : Int) = (e : Int) - (a : Int) := by omega
          have HY2 := Lib.hid (fun X hX => HY.out k hk X hX)
          rw [e1] at HY2
          have E2 := Lib.hid e2
          unfold runE at HY2
          simp only [e3] at HY2
          clear e1 e2 hr e3
          by_cases hlt2 : e < l.length
          · have hce : wr.cell? (ad.add e) = some (.int .u64 (l[e].toNat : Int)) := HV.out.cell (by simp [u64s, hlt2])
            have t1 : decide (e < ln) = true := decide_eq_true (by rw [HN.out]; exact hlt2)
            have t2 : (((l[e].toNat : Nat) : Int) == ((ua.toNat : Nat) : Int)) = false := by
              rw [beq_eq_false_iff_ne]
              intro h
              exact hgo ⟨hlt2, UInt64.toNat_inj.1 (by omega)⟩
            have hlt3 : e < ln := of_decide_eq_true t1
            clear hgo
            generalize l[e].toNat = xe at *
            clear hlt2
            gi_wp2
            gi_big_quiet_th (fail)
            obtain ⟨fn, tmps, assign, body, hy, hRd⟩ := HY2.out _ (HJ.out (n + nq))
            gi_wp2
            refine ⟨rfl, hRd.mono ?_⟩
            rintro r W3 ⟨rfl, hJ⟩
            have HJ3 := Lib.hid hJ
            clear hJ c1 hy hRd hca
            gi_wp2
            go_roundw
            case rel => exact ⟨k + 1, e, rfl, by omega, hk, E2.out, HJ3.out⟩
            case measure => simp [intOf]; omega
          · have t1 : decide (e < ln) = false := decide_eq_false (by rw [HN.out]; exact hlt2)
            clear hgo hlt2
            gi_wp2
            gi_big_quiet_th (fail)
            obtain ⟨fn, tmps, assign, body, hy, hRd⟩ := HY2.out _ (HJ.out (n + nq))
            gi_wp2
            refine ⟨rfl, hRd.mono ?_⟩
            rintro r W3 ⟨rfl, hJ⟩
            have HJ3 := Lib.hid hJ
            clear hJ c1 hy hRd hca
            gi_wp2
            go_roundw
            case rel => exact ⟨k + 1, e, rfl, by omega, hk, E2.out, HJ3.out⟩
            case measure => simp [intOf]; omega
    · have e := HK.out.1
      rw [show l.drop a = [] from List.drop_eq_nil_of_le (by rw [← HN.out]; omega), runsOf, List.drop_eq_nil_iff] at e
      have e2 : k = (runsE l).length := by
        have h2 : (runsE l).length = (runsOf l).length := by simp [runsE]
        have := HK2.out
        omega
      have HJ := Lib.hid HK.out.2
      rw [e2] at HJ
      have t1 : decide (a < ln) = false := decide_eq_false hlt
      clear e e2 hv
      gi_wp2
      go_end0
      exact ⟨⟨_, rfl⟩, HJ.out⟩
end Go.Proofs.Ytbijpjoljljlpaa
