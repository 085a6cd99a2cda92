/- slices.swapRangeCmpFunc and rotateCmpFunc at heavy.Counter: ranges exchanged, rotated. Conditions: none but the places. -/
import Derived.Test.YtlhpbfjelgmkeaaGreatStablePlain
import Derived.Test.YtlhpbfjelgmkeaaGreatRows
import Derived.Shelf.SlSortCmp.KitK
import Derived.Deep.LoopGhost
import Derived.WalkKit
import Derived.BigRegion
import Derived.Lib.Hide
import Derived.Outline
set_option maxRecDepth 1000000
namespace Go.Proofs.YtlhpbfjelgmkeaaGreat.Hvy
open Go.Shelf Go.RowKit Go.Lib Go.Sort

/-- a counter's two cells -/
def encP (x : Int × Int) : List Value := [.int .i64 x.1, .int .i64 x.2]
theorem encP_len (x : Int × Int) : (encP x).length = 2 := rfl
theorem encP_one (x : Int × Int) : ∀ v ∈ encP x, v.oneCell' = true := fun v hv => by
  simp [encP] at hv
  rcases hv with rfl | rfl <;> rfl
theorem cells2 {w0 W : World} {blk off : Nat} {d0 dk : Array (Int × Int)} (h : SWK encP 2 w0 blk off dk W) (R : RowK encP 2 w0 blk off d0) (hs : dk.size = d0.size) {i : Nat} (hi : i < dk.size) :
    W.cell? ⟨blk, off + i * 2, none⟩ = some (.int .i64 dk[i]!.1) ∧ W.cell? ⟨blk, off + i * 2 + 1, none⟩ = some (.int .i64 dk[i]!.2) ∧ W.frozen? ⟨blk, off + i * 2, none⟩ = false ∧ W.frozen? ⟨blk, off + i * 2 + 1, none⟩ = false := by
  have hH := h.holds R.hblk R.hH hs
  obtain ⟨a0, b0⟩ := hH.cell hi (c := 0) (by omega)
  obtain ⟨a1, b1⟩ := hH.cell hi (c := 1) (by omega)
  exact ⟨a0, a1, b0, b1⟩

set_option maxHeartbeats 4000000 in
theorem swapRange_any (fv : Value) (blk off cap a b n : Nat) (d0 d : Array (Int × Int)) (w0 w : World)
    (R : RowK encP 2 w0 blk off d0) (hs : d0.size = d.size) (S : SWK encP 2 w0 blk off d w) (hab : a + n ≤ b) (hb : b + n ≤ d.size) (hsz : d.size < 4611686018427387904) :
    Calls Tryz.prog 305 #[.slice (some ⟨blk, off, none⟩) d.size cap, .int .i64 a, .int .i64 b, .int .i64 n, fv] w fun e w' =>
      e = .returned (.tuple #[]) ∧ ∃ d', SWK encP 2 w0 blk off d' w' ∧ SwR d d' a b n ∧ PermIn a (b + n) d d' := by
  have S0 : Aside (SWK encP 2 w0 blk off d w) := S
  clear S
  go_enter Tryz.func305, Tryz.ntmps305
  go_wp2
  go_loopg [10] n (fun kx si wr => ∃ (i : Nat) (dk : Array (Int × Int)), si = .int .i64 i ∧ i ≤ n ∧ n - i ≤ kx ∧ Aside (SWK encP 2 w0 blk off dk wr) ∧ Hid (SwR d dk a b i) ∧ Hid (PermIn a (b + n) d dk))
  case atStart => exact ⟨0, d, rfl, Nat.zero_le _, by omega, S0, SwR.start d a b, permIn_refl d a (b + n)⟩
  case round =>
    clear S0
    obtain ⟨i, dk, rfl, hin, hkx, S1, HR, HP⟩ := hrel
    by_cases hlt : i < n
    · have hds : dk.size = d.size := HR.out.1
      have NR : Hid (SwR d (swp dk (a + i) (b + i)) a b (i + 1)) := HR.out.step hab hlt hb
      have NP : Hid (PermIn a (b + n) d (swp dk (a + i) (b + i))) := perm_swp HP.out (by omega) (by omega) (by omega) (by omega) hb
      clear HR HP
      have hltz : (i : Int) < (n : Int) := by omega
      go_wp2_with fail
      obtain ⟨A, hA⟩ : ∃ A, a + i = A := ⟨_, rfl⟩
      obtain ⟨B, hB⟩ : ∃ B, b + i = B := ⟨_, rfl⟩
      have wa : IntKind.i64.wrap ((a : Int) + (i : Int)) = (A : Int) := by rw [IntKind.wrap_i64]; omega
      have wb : IntKind.i64.wrap ((b : Int) + (i : Int)) = (B : Int) := by rw [IntKind.wrap_i64]; omega
      have ta : (a : Int) + (i : Int) = (A : Int) := by omega
      have tb : (b : Int) + (i : Int) = (B : Int) := by omega
      have ba : (A : Int) < (d.size : Int) := by omega
      have bc : (B : Int) < (d.size : Int) := by omega
      have q0 : ¬ A = B := by omega
      have q1 : ¬ A * 2 + 1 = B * 2 := by omega
      have q2 : ¬ A * 2 = B * 2 + 1 := by omega
      have q0' : ¬ B = A := by omega
      have q1' : ¬ B * 2 + 1 = A * 2 := by omega
      have q2' : ¬ B * 2 = A * 2 + 1 := by omega
      rw [hA, hB] at NR NP
      have S2 : Aside (SWK encP 2 w0 blk off (swp dk A B) ((wr.drew.setCells blk (off + A * 2) (encP dk[B]!)).setCells blk (off + B * 2) (encP dk[A]!))) := S1.out.swapped R A B (by omega) (by omega)
      obtain ⟨cx0, cx1, fx0, fx1⟩ := cells2 S1.out R (by omega) (show A < dk.size by omega)
      obtain ⟨cy0, cy1, fy0, fy1⟩ := cells2 S1.out R (by omega) (show B < dk.size by omega)
      unfold encP at S2
      generalize dk[A]!.1 = x0 at S2 cx0
      generalize dk[A]!.2 = x1 at S2 cx1
      generalize dk[B]!.1 = y0 at S2 cy0
      generalize dk[B]!.2 = y1 at S2 cy1
      clear S1 hA hB
      go_big_region
      clear cx0 cx1 cy0 cy1 fx0 fx1 fy0 fy1 q0 q1 q2 q0' q1' q2' wa wb ta tb ba bc
      have S3 : Aside (SWK encP 2 w0 blk off (swp dk A B) _) := S2
      go_wp2
      go_roundg (n - (i + 1))
      case measure => omega
      case rel => exact ⟨i + 1, swp dk A B, by go_num, by omega, by omega, S3, NR, NP⟩
    · go_wp2
      go_end0
      obtain rfl : i = n := by omega
      exact ⟨rfl, dk, S1.out, HR.out, HP.out⟩

set_option maxHeartbeats 4000000 in
theorem rotate_any (fv : Value) (blk off cap a m b : Nat) (d0 d : Array (Int × Int)) (w0 w : World)
    (R : RowK encP 2 w0 blk off d0) (hs : d0.size = d.size) (S : SWK encP 2 w0 blk off d w) (ham : a < m) (hmb : m < b) (hb : b ≤ d.size) (hsz : d.size < 4611686018427387904) :
    Calls Tryz.prog 303 #[.slice (some ⟨blk, off, none⟩) d.size cap, .int .i64 a, .int .i64 m, .int .i64 b, fv] w fun e w' =>
      e = .returned (.tuple #[]) ∧ ∃ d', SWK encP 2 w0 blk off d' w' ∧ Rot d d' a m b ∧ PermIn a b d d' := by
  have S0 : Aside (SWK encP 2 w0 blk off d w) := S
  have KS : Aside (∀ (dk : Array (Int × Int)) (W : World) (x y n : Nat), dk.size = d.size → SWK encP 2 w0 blk off dk W → x + n ≤ y → y + n ≤ d.size → Calls Tryz.prog 305 #[.slice (some ⟨blk, off, none⟩) d.size cap, .int .i64 x, .int .i64 y, .int .i64 n, fv] W fun e w' =>
      e = .returned (.tuple #[]) ∧ Aside (∃ d', SWK encP 2 w0 blk off d' w' ∧ SwR dk d' x y n ∧ PermIn x (y + n) dk d')) := fun dk W x y n h1 h2 h3 h4 => by
    have := swapRange_any fv blk off cap x y n d0 dk w0 W R (by omega) h2 h3 (by omega) (by omega)
    rw [h1] at this
    exact this
  clear S R
  have wi : IntKind.i64.wrap ((m : Int) - (a : Int)) = ((m - a : Nat) : Int) := by rw [IntKind.wrap_i64]; omega
  have wj : IntKind.i64.wrap ((b : Int) - (m : Int)) = ((b - m : Nat) : Int) := by rw [IntKind.wrap_i64]; omega
  have ti : (m : Int) - (a : Int) = ((m - a : Nat) : Int) := by omega
  have tj : (b : Int) - (m : Int) = ((b - m : Nat) : Int) := by omega
  go_enter Tryz.func303, Tryz.ntmps303
  go_wp2_with fail
  clear wi wj ti tj
  go_loopg [10, 11] (b - a) (fun kx si sj wr => ∃ (i j : Nat) (dk : Array (Int × Int)), si = .int .i64 i ∧ sj = .int .i64 j ∧ 1 ≤ i ∧ 1 ≤ j ∧ a + i ≤ m ∧ m + j ≤ b ∧ i + j ≤ kx ∧ Aside (SWK encP 2 w0 blk off dk wr) ∧ Hid (PermIn a b d dk) ∧ Hid (∀ e, Rot dk e (m - i) m (m + j) → Rot d e a m b))
  case atStart => exact ⟨m - a, b - m, d, rfl, rfl, by omega, by omega, by omega, by omega, by omega, S0, permIn_refl d a b, fun e h => by rwa [show m - (m - a) = a by omega, show m + (b - m) = b by omega] at h⟩
  case round =>
    clear S0
    obtain ⟨i, j, dk, rfl, rfl, hi1, hj1, hai, hjb, hkx, S1, HP, HR⟩ := hrel
    have hds : dk.size = d.size := HP.out.1
    have wmi : IntKind.i64.wrap ((m : Int) - (i : Int)) = ((m - i : Nat) : Int) := by rw [IntKind.wrap_i64]; omega
    have tmi : (m : Int) - (i : Int) = ((m - i : Nat) : Int) := by omega
    by_cases hij : i = j
    · subst hij
      have K := KS.out dk wr (m - i) m i hds S1.out (by omega) (by omega)
      clear S1 KS
      go_wp2_with fail
      refine K.mono ?_
      rintro e w' ⟨rfl, H⟩
      clear K
      go_wp2_with fail
      go_end0
      obtain ⟨d', h1, h2, h3⟩ := H.out
      exact ⟨rfl, d', h1, HR.out d' (rot_end (by omega) h2), permIn_trans _ _ _ _ _ HP.out (permIn_mono dk d' (m - i) (m + i) a b (by omega) (by omega) (by omega) h3)⟩
    · have hne : ((i : Int) == (j : Int)) = false := by simp; omega
      have hne' : ((i : Int) != (j : Int)) = true := by simp; omega
      by_cases hgt : j < i
      · have hgz : (j : Int) < (i : Int) := by omega
        have K := KS.out dk wr (m - i) m j hds S1.out (by omega) (by omega)
        have wij : IntKind.i64.wrap ((i : Int) - (j : Int)) = ((i - j : Nat) : Int) := by rw [IntKind.wrap_i64]; omega
        have tij : (i : Int) - (j : Int) = ((i - j : Nat) : Int) := by omega
        clear S1 KS
        go_wp2_with fail
        refine K.mono ?_
        rintro e w' ⟨rfl, H⟩
        clear K
        go_wp2_with fail
        go_roundg (i - j + j)
        case measure => omega
        case rel =>
          obtain ⟨d', h1, h2, h3⟩ := H.out
          refine ⟨i - j, j, d', rfl, rfl, by omega, hj1, by omega, hjb, Nat.le_refl _, h1, permIn_trans _ _ _ _ _ HP.out (permIn_mono dk d' (m - i) (m + j) a b (by omega) (by omega) (by omega) h3), fun e he => HR.out e (rot_left h2 (by omega) ?_)⟩
          rwa [show m - i + j = m - (i - j) by omega]
      · have hgz : ¬ (j : Int) < (i : Int) := by omega
        have K := KS.out dk wr (m - i) (m + j - i) i hds S1.out (by omega) (by omega)
        have wji : IntKind.i64.wrap ((j : Int) - (i : Int)) = ((j - i : Nat) : Int) := by rw [IntKind.wrap_i64]; omega
        have tji : (j : Int) - (i : Int) = ((j - i : Nat) : Int) := by omega
        have wmj : IntKind.i64.wrap ((m : Int) + (j : Int)) = ((m + j : Nat) : Int) := by rw [IntKind.wrap_i64]; omega
        have wmji : IntKind.i64.wrap ((m : Int) + (j : Int) - (i : Int)) = ((m + j - i : Nat) : Int) := by rw [IntKind.wrap_i64]; omega
        have tmji : (m : Int) + (j : Int) - (i : Int) = ((m + j - i : Nat) : Int) := by omega
        clear S1 KS
        go_wp2_with fail
        refine K.mono ?_
        rintro e w' ⟨rfl, H⟩
        clear K
        go_wp2_with fail
        go_roundg (i + (j - i))
        case measure => omega
        case rel =>
          obtain ⟨d', h1, h2, h3⟩ := H.out
          refine ⟨i, j - i, d', rfl, rfl, hi1, by omega, hai, by omega, Nat.le_refl _, h1, permIn_trans _ _ _ _ _ HP.out (permIn_mono dk d' (m - i) (m + j - i + i) a b (by omega) (by omega) (by omega) h3), fun e he => HR.out e ?_⟩
          refine rot_right (dk := d') (by omega) ?_ (by omega) ?_
          · exact h2
          · rwa [show m + j - i = m + (j - i) by omega]
end Go.Proofs.YtlhpbfjelgmkeaaGreat.Hvy
