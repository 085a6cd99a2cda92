/- slices.swapRangeCmpFunc and rotateCmpFunc at digest.Node: ranges exchanged, rotated. Conditions: none but the places. -/
import Derived.Test.YtahaoodklfmddaaStablePlain
import Derived.Test.YtahaoodklfmddaaRows
import Derived.Test.YtahaoodklfmddaaDigG
import Derived.Shelf.SlSortCmp.KitK
import Derived.Deep.LoopGhost
import Derived.WalkKit
import Derived.BigRegion
import Derived.Lib.Hide
import Derived.Outline
set_option maxRecDepth 1000000
namespace Go.Proofs.Ytahaoodklfmddaa
open Go.Shelf Go.RowKit Go.Lib Go.Sort

theorem setCells3 (w : World) (blk o : Nat) (a b c : Value) : w.setCells blk o [a, b, c] = ((w.setCell ⟨blk, o, none⟩ a).setCell ⟨blk, o + 1, none⟩ b).setCell ⟨blk, o + 2, none⟩ c := rfl
theorem cells2N {w0 W : World} {blk off : Nat} {d0 dk : Array (Nat × Int)} (h : SWK encG 3 w0 blk off dk W) (R : RowK encG 3 w0 blk off d0) (hs : dk.size = d0.size) {i : Nat} (hi : i < dk.size) :
    W.cell? ⟨blk, off + i * 3, none⟩ = some (.int .i64 (nA dk[i]!)) ∧ W.cell? ⟨blk, off + i * 3 + 1, none⟩ = some (.int .u64 (nU dk[i]!)) ∧ W.cell? ⟨blk, off + i * 3 + 2, none⟩ = some (.int .i64 dk[i]!.2) ∧
      W.frozen? ⟨blk, off + i * 3, none⟩ = false ∧ W.frozen? ⟨blk, off + i * 3 + 1, none⟩ = false ∧ W.frozen? ⟨blk, off + i * 3 + 2, none⟩ = false := by
  have hH := h.holds R.hblk R.hH hs
  obtain ⟨a0, b0⟩ := hH.cell hi (c := 0) (by omega)
  obtain ⟨a1, b1⟩ := hH.cell hi (c := 1) (by omega)
  obtain ⟨a2, b2⟩ := hH.cell hi (c := 2) (by omega)
  exact ⟨a0, a1, a2, b0, b1, b2⟩

set_option maxHeartbeats 60000000 in
theorem swapRange_anyN (fv : Value) (blk off cap a b n : Nat) (d0 d : Array (Nat × Int)) (w0 w : World)
    (R : RowK encG 3 w0 blk off d0) (hs : d0.size = d.size) (S : SWK encG 3 w0 blk off d w) (hab : a + n ≤ b) (hb : b + n ≤ d.size) (hsz : d.size < 4611686018427387904) :
    Calls Try.prog 83 #[.slice (some ⟨blk, off, none⟩) d.size cap, .int .i64 a, .int .i64 b, .int .i64 n, fv] w fun e w' =>
      e = .returned (.tuple #[]) ∧ ∃ d', SWK encG 3 w0 blk off d' w' ∧ SwR d d' a b n ∧ PermIn a (b + n) d d' := by
  have S0 : Aside (SWK encG 3 w0 blk off d w) := S
  clear S
  go_enter Try.func83, Try.ntmps83
  go_wp2
  go_loopg [10] n (fun kx si wr => ∃ (i : Nat) (dk : Array (Nat × Int)), si = .int .i64 i ∧ i ≤ n ∧ n - i ≤ kx ∧ Aside (SWK encG 3 w0 blk off dk wr) ∧ Hid (SwR d dk a b i) ∧ Hid (PermIn a (b + n) d dk))
  case atStart => exact ⟨0, d, rfl, Nat.zero_le _, by omega, S0, SwR.start d a b, permIn_refl d a (b + n)⟩
  case round =>
    clear S0
    obtain ⟨i, dk, rfl, hin, hkx, S1, HR, HP⟩ := hrel
    by_cases hlt : i < n
    · have hds : dk.size = d.size := HR.out.1
      have NR : Hid (SwR d (swp dk (a + i) (b + i)) a b (i + 1)) := HR.out.step hab hlt hb
      have NP : Hid (PermIn a (b + n) d (swp dk (a + i) (b + i))) := perm_swp HP.out (by omega) (by omega) (by omega) (by omega) hb
      clear HR HP
      have hltz : (i : Int) < (n : Int) := by omega
      go_wp2_with fail
      obtain ⟨A, hA⟩ : ∃ A, a + i = A := ⟨_, rfl⟩
      obtain ⟨B, hB⟩ : ∃ B, b + i = B := ⟨_, rfl⟩
      have wa : IntKind.i64.wrap ((a : Int) + (i : Int)) = (A : Int) := by rw [IntKind.wrap_i64]; omega
      have wb : IntKind.i64.wrap ((b : Int) + (i : Int)) = (B : Int) := by rw [IntKind.wrap_i64]; omega
      have ta : (a : Int) + (i : Int) = (A : Int) := by omega
      have tb : (b : Int) + (i : Int) = (B : Int) := by omega
      have ba : (A : Int) < (d.size : Int) := by omega
      have bc : (B : Int) < (d.size : Int) := by omega
      have q0 : ¬ A = B := by omega
      have q1 : ¬ A * 3 = B * 3 + 1 := by omega
      have q2 : ¬ A * 3 = B * 3 + 2 := by omega
      have q3 : ¬ A * 3 + 1 = B * 3 := by omega
      have q4 : ¬ A * 3 + 1 = B * 3 + 2 := by omega
      have q5 : ¬ A * 3 + 2 = B * 3 := by omega
      have q6 : ¬ A * 3 + 2 = B * 3 + 1 := by omega
      have q0' : ¬ B = A := by omega
      have q1' : ¬ B * 3 = A * 3 + 1 := by omega
      have q2' : ¬ B * 3 = A * 3 + 2 := by omega
      have q3' : ¬ B * 3 + 1 = A * 3 := by omega
      have q4' : ¬ B * 3 + 1 = A * 3 + 2 := by omega
      have q5' : ¬ B * 3 + 2 = A * 3 := by omega
      have q6' : ¬ B * 3 + 2 = A * 3 + 1 := by omega
      rw [hA, hB] at NR NP
      have S2 : Aside (SWK encG 3 w0 blk off (swp dk A B) ((wr.drew.setCells blk (off + A * 3) (encG dk[B]!)).setCells blk (off + B * 3) (encG dk[A]!))) := S1.out.swapped R A B (by omega) (by omega)
      obtain ⟨cx0, cx1, cx2, fx0, fx1, fx2⟩ := cells2N S1.out R (by omega) (show A < dk.size by omega)
      obtain ⟨cy0, cy1, cy2, fy0, fy1, fy2⟩ := cells2N S1.out R (by omega) (show B < dk.size by omega)
      rw [encG_form, encG_form, setCells3, setCells3] at S2
      generalize nA dk[A]! = x0 at S2 cx0
      generalize nU dk[A]! = x1 at S2 cx1
      generalize dk[A]!.2 = x2 at S2 cx2
      generalize nA dk[B]! = y0 at S2 cy0
      generalize nU dk[B]! = y1 at S2 cy1
      generalize dk[B]!.2 = y2 at S2 cy2
      clear S1 hA hB
      go_big_region
      clear cx0 cx1 cx2 cy0 cy1 cy2 fx0 fx1 fx2 fy0 fy1 fy2 q0 q1 q2 q3 q4 q5 q6 q0' q1' q2' q3' q4' q5' q6' wa wb ta tb ba bc
      have S3 : Aside (SWK encG 3 w0 blk off (swp dk A B) _) := S2
      go_wp2
      go_roundg (n - (i + 1))
      case measure => omega
      case rel => exact ⟨i + 1, swp dk A B, by go_num, by omega, by omega, S3, NR, NP⟩
    · go_wp2
      go_end0
      obtain rfl : i = n := by omega
      exact ⟨rfl, dk, S1.out, HR.out, HP.out⟩

set_option maxHeartbeats 60000000 in
theorem rotate_anyN (fv : Value) (blk off cap a m b : Nat) (d0 d : Array (Nat × Int)) (w0 w : World)
    (R : RowK encG 3 w0 blk off d0) (hs : d0.size = d.size) (S : SWK encG 3 w0 blk off d w) (ham : a < m) (hmb : m < b) (hb : b ≤ d.size) (hsz : d.size < 4611686018427387904) :
    Calls Try.prog 80 #[.slice (some ⟨blk, off, none⟩) d.size cap, .int .i64 a, .int .i64 m, .int .i64 b, fv] w fun e w' =>
      e = .returned (.tuple #[]) ∧ ∃ d', SWK encG 3 w0 blk off d' w' ∧ Rot d d' a m b ∧ PermIn a b d d' := by
  have S0 : Aside (SWK encG 3 w0 blk off d w) := S
  have KS : Aside (∀ (dk : Array (Nat × Int)) (W : World) (x y n : Nat), dk.size = d.size → SWK encG 3 w0 blk off dk W → x + n ≤ y → y + n ≤ d.size → Calls Try.prog 83 #[.slice (some ⟨blk, off, none⟩) d.size cap, .int .i64 x, .int .i64 y, .int .i64 n, fv] W fun e w' =>
      e = .returned (.tuple #[]) ∧ Aside (∃ d', SWK encG 3 w0 blk off d' w' ∧ SwR dk d' x y n ∧ PermIn x (y + n) dk d')) := fun dk W x y n h1 h2 h3 h4 => by
    have := swapRange_anyN fv blk off cap x y n d0 dk w0 W R (by omega) h2 h3 (by omega) (by omega)
    rw [h1] at this
    exact this
  clear S R
  have wi : IntKind.i64.wrap ((m : Int) - (a : Int)) = ((m - a : Nat) : Int) := by rw [IntKind.wrap_i64]; omega
  have wj : IntKind.i64.wrap ((b : Int) - (m : Int)) = ((b - m : Nat) : Int) := by rw [IntKind.wrap_i64]; omega
  have ti : (m : Int) - (a : Int) = ((m - a : Nat) : Int) := by omega
  have tj : (b : Int) - (m : Int) = ((b - m : Nat) : Int) := by omega
  go_enter Try.func80, Try.ntmps80
  go_wp2_with fail
  clear wi wj ti tj
  go_loopg [10, 11] (b - a) (fun kx si sj wr => ∃ (i j : Nat) (dk : Array (Nat × Int)), si = .int .i64 i ∧ sj = .int .i64 j ∧ 1 ≤ i ∧ 1 ≤ j ∧ a + i ≤ m ∧ m + j ≤ b ∧ i + j ≤ kx ∧ Aside (SWK encG 3 w0 blk off dk wr) ∧ Hid (PermIn a b d dk) ∧ Hid (∀ e, Rot dk e (m - i) m (m + j) → Rot d e a m b))
  case atStart => exact ⟨m - a, b - m, d, rfl, rfl, by omega, by omega, by omega, by omega, by omega, S0, permIn_refl d a b, fun e h => by rwa [show m - (m - a) = a by omega, show m + (b - m) = b by omega] at h⟩
  case round =>
    clear S0
    obtain ⟨i, j, dk, rfl, rfl, hi1, hj1, hai, hjb, hkx, S1, HP, HR⟩ := hrel
    have hds : dk.size = d.size := HP.out.1
    have wmi : IntKind.i64.wrap ((m : Int) - (i : Int)) = ((m - i : Nat) : Int) := by rw [IntKind.wrap_i64]; omega
    have tmi : (m : Int) - (i : Int) = ((m - i : Nat) : Int) := by omega
    by_cases hij : i = j
    · subst hij
      have K := KS.out dk wr (m - i) m i hds S1.out (by omega) (by omega)
      clear S1 KS
      go_wp2_with fail
      refine K.mono ?_
      rintro e w' ⟨rfl, H⟩
      clear K
      go_wp2_with fail
      go_end0
      obtain ⟨d', h1, h2, h3⟩ := H.out
      exact ⟨rfl, d', h1, HR.out d' (rot_end (by omega) h2), permIn_trans _ _ _ _ _ HP.out (permIn_mono dk d' (m - i) (m + i) a b (by omega) (by omega) (by omega) h3)⟩
    · have hne : ((i : Int) == (j : Int)) = false := by simp; omega
      have hne' : ((i : Int) != (j : Int)) = true := by simp; omega
      by_cases hgt : j < i
      · have hgz : (j : Int) < (i : Int) := by omega
        have K := KS.out dk wr (m - i) m j hds S1.out (by omega) (by omega)
        have wij : IntKind.i64.wrap ((i : Int) - (j : Int)) = ((i - j : Nat) : Int) := by rw [IntKind.wrap_i64]; omega
        have tij : (i : Int) - (j : Int) = ((i - j : Nat) : Int) := by omega
        clear S1 KS
        go_wp2_with fail
        refine K.mono ?_
        rintro e w' ⟨rfl, H⟩
        clear K
        go_wp2_with fail
        go_roundg (i - j + j)
        case measure => omega
        case rel =>
          obtain ⟨d', h1, h2, h3⟩ := H.out
          refine ⟨i - j, j, d', rfl, rfl, by omega, hj1, by omega, hjb, Nat.le_refl _, h1, permIn_trans _ _ _ _ _ HP.out (permIn_mono dk d' (m - i) (m + j) a b (by omega) (by omega) (by omega) h3), fun e he => HR.out e (rot_left h2 (by omega) ?_)⟩
          rwa [show m - i + j = m - (i - j) by omega]
      · have hgz : ¬ (j : Int) < (i : Int) := by omega
        have K := KS.out dk wr (m - i) (m + j - i) i hds S1.out (by omega) (by omega)
        have wji : IntKind.i64.wrap ((j : Int) - (i : Int)) = ((j - i : Nat) : Int) := by rw [IntKind.wrap_i64]; omega
        have tji : (j : Int) - (i : Int) = ((j - i : Nat) : Int) := by omega
        have wmj : IntKind.i64.wrap ((m : Int) + (j : Int)) = ((m + j : Nat) : Int) := by rw [IntKind.wrap_i64]; omega
        have wmji : IntKind.i64.wrap ((m : Int) + (j : Int) - (i : Int)) = ((m + j - i : Nat) : Int) := by rw [IntKind.wrap_i64]; omega
        have tmji : (m : Int) + (j : Int) - (i : Int) = ((m + j - i : Nat) : Int) := by omega
        clear S1 KS
        go_wp2_with fail
        refine K.mono ?_
        rintro e w' ⟨rfl, H⟩
        clear K
        go_wp2_with fail
        go_roundg (i + (j - i))
        case measure => omega
        case rel =>
          obtain ⟨d', h1, h2, h3⟩ := H.out
          refine ⟨i, j - i, d', rfl, rfl, hi1, by omega, hai, by omega, Nat.le_refl _, h1, permIn_trans _ _ _ _ _ HP.out (permIn_mono dk d' (m - i) (m + j - i + i) a b (by omega) (by omega) (by omega) h3), fun e he => HR.out e ?_⟩
          refine rot_right (dk := d') (by omega) ?_ (by omega) ?_
          · exact h2
          · rwa [show m + j - i = m + (j - i) by omega]
end Go.Proofs.Ytahaoodklfmddaa
