/- slices.symMergeCmpFunc at heavy.Counter where the second part has one element. Conditions: as stated. -/
import Derived.Test.YtlhpbfjelgmkeaaGreatStableOne
set_option maxRecDepth 1000000
namespace Go.Proofs.YtlhpbfjelgmkeaaGreat.Hvy
open Go.Shelf Go.RowKit Go.Lib Go.Sort

section
variable {g : Nat} {cf : Int × Int → Int × Int → Int} {lt : Int × Int → Int × Int → Bool} {Rr : Int × Int → Int × Int → Prop} {w0 : World} {blk off : Nat} {d0 : Array (Int × Int)}
set_option maxHeartbeats 8000000 in
theorem merge_second (O : Ord g cf lt Rr w0 blk off d0) {cap a m : Nat} {d : Array (Int × Int)} {w : World} (hs : d0.size = d.size) (S : SWK encP 2 w0 blk off d w) (hT : Two lt Rr d a m (m + 1)) (ham : a + 1 < m) (hb0 : m + 1 ≤ d.size) :
    Calls Tryz.prog 299 #[.slice (some ⟨blk, off, none⟩) d.size cap, .int .i64 a, .int .i64 m, .int .i64 ((m + 1 : Nat) : Int), .func (.func g) #[] #[]] w fun e w' =>
      e = .returned (.tuple #[]) ∧ Aside (∃ d', SWK encP 2 w0 blk off d' w' ∧ PermIn a (m + 1) d d' ∧ SortedIn lt a (m + 1) d') := by
  have S0 : Aside (SWK encP 2 w0 blk off d w) := S
  have HT : Hid (Two lt Rr d a m (m + 1)) := hT
  have hsz := O.size
  have eg := O.eg
  have mixed : Tryz.prog.follows .mixedOrders = true := by kernel_rfl
  have HO : Hid (Ord g cf lt Rr w0 blk off d0) := O
  clear S hT
  obtain ⟨b, hm⟩ : ∃ b, m + 1 = b := ⟨_, rfl⟩
  have HM : Hid (m + 1 = b) := hm
  rw [hm] at HT hb0 ⊢
  have wma : IntKind.i64.wrap ((m : Int) - (a : Int)) = (m : Int) - (a : Int) := by rw [IntKind.wrap_i64]; omega
  have tma : ((m : Int) - (a : Int) == 1) = false := by simp; omega
  have tm : (b : Int) - (m : Int) = 1 := by omega
  have am : (m : Int) < (d.size : Int) := by omega
  have am' : m < d.size := by omega
  have hmle : m + 1 ≤ b := by omega
  have hmge : b ≤ m + 1 := by omega
  clear hm O
  go_enter Tryz.func299, Tryz.ntmps299
  go_wp2_with fail
  clear tm wma tma
  go_loopg [14, 15] (m - a) (fun kx si sj wr => ∃ (i j : Nat), si = .int .i64 i ∧ sj = .int .i64 j ∧ a ≤ i ∧ i ≤ j ∧ j ≤ m ∧ j - i ≤ kx ∧ Aside (SWK encP 2 w0 blk off d wr) ∧ Hid (∀ h, a ≤ h → h < i → lt d[m]! d[h]! = false) ∧ Hid (∀ h, j ≤ h → h < m → lt d[m]! d[h]! = true))
  case atStart => exact ⟨a, m, rfl, rfl, by omega, by omega, by omega, by omega, S0, fun h h1 h2 => by omega, fun h h1 h2 => by omega⟩
  case round =>
    clear S0
    obtain ⟨i, j, rfl, rfl, hmi, hij, hjb, hkx, S1, HL, HH⟩ := hrel
    by_cases hlt : i < j
    · have hltz : (i : Int) < (j : Int) := by omega
      obtain ⟨H, hH⟩ : ∃ H, (i + j) / 2 = H := ⟨_, rfl⟩
      have th : ((i : Int) + (j : Int)) / 2 = (H : Int) := by omega
      have h1 : i ≤ H := by omega
      have h2 : H < j := by omega
      have h3 : (H : Int) < (d.size : Int) := by omega
      have h4 : (0 : Int) ≤ (i : Int) + (j : Int) := by omega
      obtain ⟨cx0, cx1⟩ := HO.out.cells S1.out hs.symm am'
      obtain ⟨ca0, ca1⟩ := HO.out.cells S1.out hs.symm (show H < d.size by omega)
      have hcg := HO.out.calls S1.out hs.symm d[m]! d[H]!
      have he : ltOf cf d[m]! d[H]! = lt d[m]! d[H]! := HO.out.like _ _ (HT.out.cross H m (by omega) (by omega) (by omega) (by omega))
      clear hH
      cases hv : lt d[m]! d[H]! with
      | false =>
        have HV : Hid (lt d[m]! d[H]! = false) := hv
        rw [hv] at he
        have hd : ¬ cf d[m]! d[H]! < 0 := of_decide_eq_false he
        clear hv he
        generalize cf d[m]! d[H]! = r at hcg hd
        have hd2 : (0 : Int) ≤ r := by omega
        have hd3 : decide (r < 0) = false := decide_eq_false hd
        clear hd
        generalize d[m]!.1 = x0 at cx0 hcg
        generalize d[m]!.2 = x1 at cx1 hcg
        generalize d[H]!.1 = y0 at ca0 hcg
        generalize d[H]!.2 = y1 at ca1 hcg
        go_wp2_with fail
        go_quiet_grown (first | (go_at_fn g; refine Calls.grown_of (hcg _ _)))
        have S2 : Aside (SWK encP 2 w0 blk off d (grow (wr.drewN nq) osq)) := S1.out.grown nq osq
        clear cx0 cx1 ca0 ca1 hcg S1
        generalize grow (wr.drewN nq) osq = wv at S2 ⊢
        clear nq osq
        go_wp2
        go_roundg (j - (H + 1))
        case measure => omega
        case rel => exact ⟨H + 1, j, by go_num, rfl, by omega, by omega, hjb, Nat.le_refl _, S2, fun h q1 q2 => by
            exact HO.out.swo.ntrans _ _ _ HV.out (SortedIn_le HO.out.swo HT.out.left q1 (by omega) (by omega)), HH⟩
      | true =>
        have HV : Hid (lt d[m]! d[H]! = true) := hv
        rw [hv] at he
        have hd : cf d[m]! d[H]! < 0 := of_decide_eq_true he
        clear hv he
        generalize cf d[m]! d[H]! = r at hcg hd
        generalize d[m]!.1 = x0 at cx0 hcg
        generalize d[m]!.2 = x1 at cx1 hcg
        generalize d[H]!.1 = y0 at ca0 hcg
        generalize d[H]!.2 = y1 at ca1 hcg
        go_wp2_with fail
        go_quiet_grown (first | (go_at_fn g; refine Calls.grown_of (hcg _ _)))
        have S2 : Aside (SWK encP 2 w0 blk off d (grow (wr.drewN nq) osq)) := S1.out.grown nq osq
        clear cx0 cx1 ca0 ca1 hcg S1
        generalize grow (wr.drewN nq) osq = wv at S2 ⊢
        clear nq osq
        go_wp2
        go_roundg (H - i)
        case measure => omega
        case rel => exact ⟨i, H, rfl, rfl, by omega, by omega, by omega, Nat.le_refl _, S2, HL, fun h q1 q2 => by
            cases hz : lt d[m]! d[h]! with
            | true => rfl
            | false => have := HO.out.swo.ntrans _ _ _ hz (SortedIn_le HO.out.swo HT.out.left (by omega) q1 q2); rw [HV.out] at this; cases this⟩
    · obtain rfl : i = j := by omega
      have HR0 : Hid (Rot d d m m b) := rot_none_l d m b
      clear hij hkx
      go_wp2_with fail
      go_loopg [17] (m - i) (fun kx sk wr => ∃ (k : Nat) (dk : Array (Int × Int)), sk = .int .i64 k ∧ i ≤ k ∧ k ≤ m ∧ k - i ≤ kx ∧ Aside (SWK encP 2 w0 blk off dk wr) ∧ Hid (Rot d dk k m b) ∧ Hid (PermIn a b d dk))
      case atStart => exact ⟨m, d, rfl, by omega, Nat.le_refl _, by omega, S1, HR0, permIn_refl d a b⟩
      case round =>
        clear S1 HR0
        obtain ⟨k, dk, rfl, hak, hki, hkx, S1, HR, HP⟩ := hrel
        by_cases hlk : i < k
        · have hds : dk.size = d.size := HR.out.1
          have hkz : (i : Int) < (k : Int) := by omega
          obtain ⟨B, rfl⟩ : ∃ B, k = B + 1 := ⟨k - 1, by omega⟩
          have NR : Hid (Rot d (swp dk (B + 1) B) B m b) := by
            have e := HM.out
            subst e
            exact rot_down HR.out (by omega) (by omega)
          have NP : Hid (PermIn a b d (swp dk (B + 1) B)) := perm_swp HP.out (by omega) (by omega) (by omega) (by omega) hb0
          clear HR HP
          obtain ⟨k, hk⟩ : ∃ k, B + 1 = k := ⟨_, rfl⟩
          rw [hk] at NR NP hkz ⊢
          go_wp2_with fail
          have tb : (k : Int) - 1 = (B : Int) := by omega
          have wb : IntKind.i64.wrap ((k : Int) - 1) = (B : Int) := by rw [IntKind.wrap_i64]; omega
          have bk : (k : Int) < (d.size : Int) := by omega
          have bc : (B : Int) < (d.size : Int) := by omega
          have q0 : ¬ k = B := by omega
          have q1 : ¬ k * 2 + 1 = B * 2 := by omega
          have q2 : ¬ k * 2 = B * 2 + 1 := by omega
          have q0' : ¬ B = k := by omega
          have q1' : ¬ B * 2 + 1 = k * 2 := by omega
          have q2' : ¬ B * 2 = k * 2 + 1 := by omega
          have S2 : Aside (SWK encP 2 w0 blk off (swp dk k B) ((wr.drew.setCells blk (off + k * 2) (encP dk[B]!)).setCells blk (off + B * 2) (encP dk[k]!))) := S1.out.swapped HO.out.row k B (by omega) (by omega)
          obtain ⟨cx0, cx1, fx0, fx1⟩ := cells2 S1.out HO.out.row (by omega) (show k < dk.size by omega)
          obtain ⟨cy0, cy1, fy0, fy1⟩ := cells2 S1.out HO.out.row (by omega) (show B < dk.size by omega)
          unfold encP at S2
          generalize dk[k]!.1 = x0 at S2 cx0
          generalize dk[k]!.2 = x1 at S2 cx1
          generalize dk[B]!.1 = y0 at S2 cy0
          generalize dk[B]!.2 = y1 at S2 cy1
          have hB1 : B < k := by omega
          have hB2 : k ≤ B + 1 := by omega
          clear S1 hk
          go_big_region
          clear cx0 cx1 cy0 cy1 fx0 fx1 fy0 fy1 q0 q1 q2 q0' q1' q2' wb bk bc
          have S3 : Aside (SWK encP 2 w0 blk off (swp dk k B) _) := S2
          go_wp2
          go_roundg (B - i)
          case measure => omega
          case rel => exact ⟨B, swp dk k B, rfl, by omega, by omega, Nat.le_refl _, S3, NR, NP⟩
        · obtain rfl : k = i := by omega
          go_wp2
          refine bodyPost_ret (results_none rfl _ _ _) rfl ?_
          refine ⟨rfl, dk, S1.out, HP.out, ?_⟩
          have e := HM.out
          subst e
          exact merge_last HO.out.swo HT.out.left (by omega) (by omega) HL.out HH.out HR.out
end
end Go.Proofs.YtlhpbfjelgmkeaaGreat.Hvy
