/- slices.symMergeCmpFunc at heavy.Counter where one of the two parts has one element. Conditions: as stated. -/
import Derived.Test.YtlhpbfjelgmkeaaGreatStableSwap
import Derived.Shelf.SlSortCmp.WholeK
import Derived.Deep.DeepFit
set_option maxRecDepth 1000000
namespace Go.Proofs.YtlhpbfjelgmkeaaGreat.Hvy
open Go.Shelf Go.RowKit Go.Lib Go.Sort

/-- what the sort is told, once: a comparison, an order, and how those that come from the left stand to those from the right -/
structure Ord (g : Nat) (cf : Int × Int → Int × Int → Int) (lt : Int × Int → Int × Int → Bool) (Rr : Int × Int → Int × Int → Prop) (w0 : World) (blk off : Nat) (d0 : Array (Int × Int)) : Prop where
  row : RowK encP 2 w0 blk off d0
  eg : ∀ args w, (callFunc g args).run Tryz.prog w = .ok (.enter g args) w
  cmp : CmpLays Tryz.prog g #[] encP 2 cf blk off d0.size w0
  swo : SWO lt
  like : ∀ x y, Rr x y → ltOf cf y x = lt y x
  size : d0.size < 4611686018427387904

section
variable {g : Nat} {cf : Int × Int → Int × Int → Int} {lt : Int × Int → Int × Int → Bool} {Rr : Int × Int → Int × Int → Prop} {w0 : World} {blk off : Nat} {d0 : Array (Int × Int)}
/-- a comparison's call, in a world of the sort's -/
theorem Ord.calls (O : Ord g cf lt Rr w0 blk off d0) {W : World} {dk : Array (Int × Int)} (S : SWK encP 2 w0 blk off dk W) (hs : dk.size = d0.size) (x y : Int × Int) (n : Nat) (os : Array Obj) :
    Calls Tryz.prog g #[.agg #[.int .i64 x.1, .int .i64 x.2], .agg #[.int .i64 y.1, .int .i64 y.2]] (grow (W.drewN n) os) fun e w' => e = .returned (.int .i64 (cf x y)) ∧ ∃ q os', w' = grow ((grow (W.drewN n) os).drewN q) os' := by
  have := S.cmp O.cmp hs x y n os
  simpa [encP] using this
/-- the two cells of an element, in every world behind it -/
theorem Ord.cells (O : Ord g cf lt Rr w0 blk off d0) {W : World} {dk : Array (Int × Int)} (S : SWK encP 2 w0 blk off dk W) (hs : dk.size = d0.size) {i : Nat} (hi : i < dk.size) :
    (∀ n os, (grow (W.drewN n) os).cell? ⟨blk, off + i * 2, none⟩ = some (.int .i64 dk[i]!.1)) ∧ (∀ n os, (grow (W.drewN n) os).cell? ⟨blk, off + i * 2 + 1, none⟩ = some (.int .i64 dk[i]!.2)) :=
  ⟨fun n os => (cells2 (S.grown n os) O.row hs hi).1, fun n os => (cells2 (S.grown n os) O.row hs hi).2.1⟩

set_option maxHeartbeats 8000000 in
theorem merge_first (O : Ord g cf lt Rr w0 blk off d0) {cap a b : Nat} {d : Array (Int × Int)} {w : World} (hs : d0.size = d.size) (S : SWK encP 2 w0 blk off d w) (hT : Two lt Rr d a (a + 1) b) (hmb : a + 1 < b) (hb : b ≤ d.size) :
    Calls Tryz.prog 299 #[.slice (some ⟨blk, off, none⟩) d.size cap, .int .i64 a, .int .i64 ((a + 1 : Nat) : Int), .int .i64 b, .func (.func g) #[] #[]] w fun e w' =>
      e = .returned (.tuple #[]) ∧ Aside (∃ d', SWK encP 2 w0 blk off d' w' ∧ PermIn a b d d' ∧ SortedIn lt a b d') := by
  have S0 : Aside (SWK encP 2 w0 blk off d w) := S
  have HT : Hid (Two lt Rr d a (a + 1) b) := hT
  have hsz := O.size
  have eg := O.eg
  have mixed : Tryz.prog.follows .mixedOrders = true := by kernel_rfl
  have HO : Hid (Ord g cf lt Rr w0 blk off d0) := O
  clear S hT
  obtain ⟨m, hm⟩ : ∃ m, a + 1 = m := ⟨_, rfl⟩
  have HM : Hid (a + 1 = m) := hm
  rw [hm] at HT hmb ⊢
  have tm : (m : Int) - (a : Int) = 1 := by omega
  have am : (a : Int) < (d.size : Int) := by omega
  have am' : a < d.size := by omega
  have hmle : a + 1 ≤ m := by omega
  have hmge : m ≤ a + 1 := by omega
  clear hm O
  go_enter Tryz.func299, Tryz.ntmps299
  go_wp2_with fail
  clear tm
  go_loopg [10, 11] (b - m) (fun kx si sj wr => ∃ (i j : Nat), si = .int .i64 i ∧ sj = .int .i64 j ∧ m ≤ i ∧ i ≤ j ∧ j ≤ b ∧ j - i ≤ kx ∧ Aside (SWK encP 2 w0 blk off d wr) ∧ Hid (∀ h, m ≤ h → h < i → lt d[h]! d[a]! = true) ∧ Hid (∀ h, j ≤ h → h < b → lt d[h]! d[a]! = false))
  case atStart => exact ⟨m, b, rfl, rfl, by omega, by omega, by omega, by omega, S0, fun h h1 h2 => by omega, fun h h1 h2 => by omega⟩
  case round =>
    clear S0
    obtain ⟨i, j, rfl, rfl, hmi, hij, hjb, hkx, S1, HL, HH⟩ := hrel
    by_cases hlt : i < j
    · have hltz : (i : Int) < (j : Int) := by omega
      obtain ⟨H, hH⟩ : ∃ H, (i + j) / 2 = H := ⟨_, rfl⟩
      have th : ((i : Int) + (j : Int)) / 2 = (H : Int) := by omega
      have h1 : i ≤ H := by omega
      have h2 : H < j := by omega
      have h3 : (H : Int) < (d.size : Int) := by omega
      have h4 : (0 : Int) ≤ (i : Int) + (j : Int) := by omega
      obtain ⟨cx0, cx1⟩ := HO.out.cells S1.out hs.symm (show H < d.size by omega)
      obtain ⟨ca0, ca1⟩ := HO.out.cells S1.out hs.symm am'
      have hcg := HO.out.calls S1.out hs.symm d[H]! d[a]!
      have he : ltOf cf d[H]! d[a]! = lt d[H]! d[a]! := HO.out.like _ _ (HT.out.cross a H (Nat.le_refl _) (by omega) (by omega) (by omega))
      clear hH
      cases hv : lt d[H]! d[a]! with
      | true =>
        have HV : Hid (lt d[H]! d[a]! = true) := hv
        rw [hv] at he
        have hd : cf d[H]! d[a]! < 0 := of_decide_eq_true he
        clear hv he
        generalize cf d[H]! d[a]! = r at hcg hd
        generalize d[H]!.1 = x0 at cx0 hcg
        generalize d[H]!.2 = x1 at cx1 hcg
        generalize d[a]!.1 = y0 at ca0 hcg
        generalize d[a]!.2 = y1 at ca1 hcg
        go_wp2_with fail
        go_quiet_grown (first | (go_at_fn g; refine Calls.grown_of (hcg _ _)))
        have S2 : Aside (SWK encP 2 w0 blk off d (grow (wr.drewN nq) osq)) := S1.out.grown nq osq
        clear cx0 cx1 ca0 ca1 hcg S1
        generalize grow (wr.drewN nq) osq = wv at S2 ⊢
        clear nq osq
        go_wp2
        go_roundg (j - (H + 1))
        case measure => omega
        case rel => exact ⟨H + 1, j, by go_num, rfl, by omega, by omega, hjb, Nat.le_refl _, S2, fun h q1 q2 => by
            rcases Nat.lt_or_ge h H with q | q
            · cases hz : lt d[h]! d[a]! with
              | true => rfl
              | false => have := HO.out.swo.ntrans _ _ _ (HT.out.right h H (by omega) q (by omega)) hz; rw [HV.out] at this; cases this
            · obtain rfl : h = H := by omega
              exact HV.out, HH⟩
      | false =>
        have HV : Hid (lt d[H]! d[a]! = false) := hv
        rw [hv] at he
        have hd : ¬ cf d[H]! d[a]! < 0 := of_decide_eq_false he
        clear hv he
        generalize cf d[H]! d[a]! = r at hcg hd
        generalize d[H]!.1 = x0 at cx0 hcg
        generalize d[H]!.2 = x1 at cx1 hcg
        generalize d[a]!.1 = y0 at ca0 hcg
        generalize d[a]!.2 = y1 at ca1 hcg
        go_wp2_with fail
        go_quiet_grown (first | (go_at_fn g; refine Calls.grown_of (hcg _ _)))
        have S2 : Aside (SWK encP 2 w0 blk off d (grow (wr.drewN nq) osq)) := S1.out.grown nq osq
        clear cx0 cx1 ca0 ca1 hcg S1
        generalize grow (wr.drewN nq) osq = wv at S2 ⊢
        clear nq osq
        go_wp2
        go_roundg (H - i)
        case measure => omega
        case rel => exact ⟨i, H, rfl, rfl, by omega, by omega, by omega, Nat.le_refl _, S2, HL, fun h q1 q2 => HO.out.swo.ntrans _ _ _ (SortedIn_le HO.out.swo HT.out.right (by omega) q1 q2) HV.out⟩
    · obtain rfl : i = j := by omega
      have HR0 : Hid (Rot d d a (a + 1) (a + 1)) := rot_none_r d a (a + 1)
      obtain ⟨im, him⟩ : ∃ im, i = im + 1 := ⟨i - 1, by omega⟩
      have ti : (i : Int) - 1 = (im : Int) := by omega
      have HI : Hid (i = im + 1) := him
      have i1 : a ≤ im := by omega
      have i2 : im + 1 ≤ d.size := by omega
      have i3 : im + 1 ≤ b := by omega
      clear him hmi hij hkx
      go_wp2_with fail
      go_loopg [13] (im - a) (fun kx sk wr => ∃ (k : Nat) (dk : Array (Int × Int)), sk = .int .i64 k ∧ a ≤ k ∧ k ≤ im ∧ im - k ≤ kx ∧ Aside (SWK encP 2 w0 blk off dk wr) ∧ Hid (Rot d dk a (a + 1) (k + 1)) ∧ Hid (PermIn a b d dk))
      case atStart => exact ⟨a, d, rfl, Nat.le_refl _, i1, Nat.le_refl _, S1, HR0, permIn_refl d a b⟩
      case round =>
        clear S1 HR0
        obtain ⟨k, dk, rfl, hak, hki, hkx, S1, HR, HP⟩ := hrel
        by_cases hlk : k < im
        · have hds : dk.size = d.size := HR.out.1
          have hkz : (k : Int) < (im : Int) := by omega
          have NR : Hid (Rot d (swp dk k (k + 1)) a (a + 1) (k + 1 + 1)) := rot_up HR.out hak (by omega)
          have NP : Hid (PermIn a b d (swp dk k (k + 1))) := perm_swp HP.out (by omega) (by omega) (by omega) (by omega) hb
          clear HR HP
          go_wp2_with fail
          obtain ⟨B, hB⟩ : ∃ B, k + 1 = B := ⟨_, rfl⟩
          have tb : (k : Int) + 1 = (B : Int) := by omega
          have wb : IntKind.i64.wrap ((k : Int) + 1) = (B : Int) := by rw [IntKind.wrap_i64]; omega
          have bk : (k : Int) < (d.size : Int) := by omega
          have bc : (B : Int) < (d.size : Int) := by omega
          have q0 : ¬ k = B := by omega
          have q1 : ¬ k * 2 + 1 = B * 2 := by omega
          have q2 : ¬ k * 2 = B * 2 + 1 := by omega
          have q0' : ¬ B = k := by omega
          have q1' : ¬ B * 2 + 1 = k * 2 := by omega
          have q2' : ¬ B * 2 = k * 2 + 1 := by omega
          rw [hB] at NR NP
          have S2 : Aside (SWK encP 2 w0 blk off (swp dk k B) ((wr.drew.setCells blk (off + k * 2) (encP dk[B]!)).setCells blk (off + B * 2) (encP dk[k]!))) := S1.out.swapped HO.out.row k B (by omega) (by omega)
          obtain ⟨cx0, cx1, fx0, fx1⟩ := cells2 S1.out HO.out.row (by omega) (show k < dk.size by omega)
          obtain ⟨cy0, cy1, fy0, fy1⟩ := cells2 S1.out HO.out.row (by omega) (show B < dk.size by omega)
          unfold encP at S2
          generalize dk[k]!.1 = x0 at S2 cx0
          generalize dk[k]!.2 = x1 at S2 cx1
          generalize dk[B]!.1 = y0 at S2 cy0
          generalize dk[B]!.2 = y1 at S2 cy1
          have hB1 : k < B := by omega
          have hB2 : B ≤ k + 1 := by omega
          clear S1 hB
          go_big_region
          clear cx0 cx1 cy0 cy1 fx0 fx1 fy0 fy1 q0 q1 q2 q0' q1' q2' wb bk bc
          have S3 : Aside (SWK encP 2 w0 blk off (swp dk k B) _) := S2
          go_wp2
          go_roundg (im - B)
          case measure => omega
          case rel => exact ⟨B, swp dk k B, rfl, by omega, by omega, Nat.le_refl _, S3, NR, NP⟩
        · obtain rfl : k = im := by omega
          go_wp2
          refine bodyPost_ret (results_none rfl _ _ _) rfl ?_
          refine ⟨rfl, dk, S1.out, HP.out, ?_⟩
          have e := HI.out
          have e2 := HM.out
          subst e e2
          exact merge_one HO.out.swo HT.out.right (by omega) (by omega) HL.out HH.out HR.out
end
end Go.Proofs.YtlhpbfjelgmkeaaGreat.Hvy
