/- Contracts of codec.putWord, codec.word, codec.Frame. Conditions: none but Go's. -/
import Derived.Test.YtehfoaicohnpfaaGreatDoorCodecSum
import Derived.Test.YtehfoaicohnpfaaGreatDoorCodecPut
import Derived.Test.YtehfoaicohnpfaaGreatDoorUnpackPlain
set_option maxRecDepth 100000
namespace Go.Proofs.YtehfoaicohnpfaaGreatDoor
open Go.RowKit Go.Maps Go.Sort

theorem bytesN_succ (m N : Nat) : bytesN (m + 1) N = bytesN m N ++ [UInt8.ofNat (N / 256 ^ m)] := by simp [bytesN, List.range_succ]

set_option maxHeartbeats 800000 in
theorem putWord_any {w : World} {B : Nat} {v : Value} {xs : List UInt8} (hown : w.ownsRow B 5 1 v xs.length (u8s xs)) (hB : B ≤ w.heap.size) (x : Nat) (hx : x < 4294967296) (hl : xs.length ≤ 1000000) :
    Calls Tryz.prog 34 #[v, .int .u32 (x : Int)] w fun e w' => ∃ v', e = .returned v' ∧ Hid (w'.ownsRow B 5 1 v' (xs ++ bytesN 4 x).length (u8s (xs ++ bytesN 4 x)) ∧ Below B w w') := by
  have H0 := Lib.hid hown
  obtain ⟨a, c, rfl, _⟩ := ownsRow_form hown
  have HL := Lib.hid hl
  obtain ⟨n, hn⟩ : ∃ n, n = xs.length := ⟨_, rfl⟩
  rw [← hn] at HL H0 ⊢
  have HN := Lib.hid hn
  clear hown hl hn
  go_enter Tryz.func34, Tryz.ntmps34
  go_wp2_with fail
  go_loopw [0, 6] (fun v' i wr => ∃ k : Nat, k ≤ 4 ∧ i = .int .i64 k ∧ Hid (wr.ownsRow B 5 1 v' (xs ++ bytesN k x).length (u8s (xs ++ bytesN k x)) ∧ Below B w wr)) (fun _ i _ => 4 - (intOf i).toNat)
  case atStart => exact ⟨0, by omega, rfl, Lib.hid ⟨by have := H0.out; rw [HN.out] at this ⊢; simpa [bytesN] using this, Below.refl _ _⟩⟩
  case round =>
    obtain ⟨k, hk, rfl, HR⟩ := hrel
    by_cases hlt : k < 4
    · have hy : (xs ++ bytesN k x).length ≤ 17592186044100 := by rw [List.length_append, bytesN_len]; have := HL.out; have := HN.out; omega
      have hpre : wr.ownsRow B 5 1 u0 (xs ++ bytesN k x).length (u8s (xs ++ bytesN k x)) ∧ wr.grownBy wr u0.ownBlock ∧ (u0.ownBlock = u0.ownBlock ∨ ∀ g, u0.ownBlock = some g → wr.heap.size ≤ g) := ⟨HR.out.1, grown_refl _ _, .inl rfl⟩
      have he : ((x / 256 ^ k % 256 : Nat) : Int) = ((UInt8.ofNat (x / 256 ^ k)).toNat : Int) := by simp
      obtain ⟨v2, w2, HRUN, HR2⟩ := put_step hpre (Nat.le_trans hB HR.out.2.size) (UInt8.ofNat (x / 256 ^ k)) _ he hy
      clear hpre he hy
      rw [List.append_assoc, ← bytesN_succ] at HR2
      have H2 := Lib.hid (And.intro HR2.out.1 (HR.out.2.trans (below_grown HR2.out.2.1 (Nat.le_trans hB HR.out.2.size) (ownsRow_ge HR.out.1))))
      clear HR2
      rw [pow256] at HRUN
      have hsh : (x : Int) / 2 ^ (8 * k) = ((x / 2 ^ (8 * k) : Nat) : Int) := by simp
      have h8 : (8 : Int) * (k : Int) = ((8 * k : Nat) : Int) := by simp
      have h32 : 8 * k ≤ 24 := by omega
      generalize 8 * k = e8 at *
      have hw8 : IntKind.u8.wrap ((x / 2 ^ e8 : Nat) : Int) = ((x / 2 ^ e8 % 256 : Nat) : Int) := by rw [IntKind.wrap_u8]; simp
      have hq : x / 2 ^ e8 < 4294967296 := Nat.lt_of_le_of_lt (Nat.div_le_self _ _) hx
      generalize x / 2 ^ e8 % 256 = by' at *
      generalize x / 2 ^ e8 = q at *
      go_wp2_with (at_builtin; refine wpList_append_run rfl _ _ 22 rfl rfl rfl (HRUN.out _) ?_)
      go_roundw
      case rel => exact ⟨k + 1, by omega, by go_num, H2.out⟩
      case measure => simp [intOf]; omega
    · obtain rfl : k = 4 := by omega
      go_wp2_with fail
      go_ret
      exact ⟨_, rfl, HR⟩

/-- the frame of bytes -/
def frameL (l : List UInt8) : List UInt8 := bytesN 4 l.length ++ l ++ bytesN 4 (sumN (bytesN 4 l.length ++ l))
theorem frameL_len (l : List UInt8) : (frameL l).length = l.length + 8 := by simp [frameL, bytesN]; omega

theorem Frame_long {w : World} (a : Option Addr) (n cap : Nat) (h : 262144 < n) :
    Calls Tryz.prog 16 #[.slice a n cap] w fun e w' => e = .returned (.slice none 0 0) ∧ w' = w := by
  go_enter Tryz.func16, Tryz.ntmps16
  go_wp2_with fail
  go_ret
  exact ⟨rfl, rfl⟩

set_option maxHeartbeats 800000 in
theorem Frame_any {w : World} (hq : Quads w) {a : Option Addr} {cap : Nat} {l : List UInt8} (h : Holds w (.slice a l.length cap) (u8s l)) (hl : l.length ≤ 262144) :
    Calls Tryz.prog 16 #[.slice a l.length cap] w fun e w' => ∃ v', e = .returned v' ∧ Hid (w'.ownsRow w.heap.size 5 1 v' (frameL l).length (u8s (frameL l)) ∧ Below w.heap.size w w') := by
  have hmk := mk8 w 0 ((l.length : Int) + 8) 0 (l.length + 8) rfl (by omega) (by omega) (by omega)
  have hb1 := (Below.refl w.heap.size w).alloc (Nat.le_refl _) (.cells (u8s (List.replicate (l.length + 8) 0)).toArray 5)
  have hr1 := World.ownsRow_made w (base := w.heap.size) (e := 5) (size := 1) (u8s (List.replicate (l.length + 8) 0)).toArray (l.length + 8) (Nat.le_refl _) (by unfold maxLen; omega) (by simp [u8s])
  generalize w.alloc (.cells (u8s (List.replicate (l.length + 8) 0)).toArray 5) = w1 at *
  have HQ := Lib.hid hq
  have H := Lib.hid h
  have B1 := Lib.hid hb1
  have R1 := Lib.hid (show w1.ownsRow w.heap.size 5 1 (.slice (some ⟨w.heap.size, 0, none⟩) 0 (l.length + 8)) ([] : List UInt8).length (u8s []) from hr1)
  obtain ⟨n, hn⟩ : ∃ n, n = l.length := ⟨_, rfl⟩
  rw [← hn] at H hmk hl R1 ⊢
  have HN := Lib.hid hn
  have h32 : IntKind.u32.wrap (n : Int) = (n : Int) := IntWalk.u32_in _ (by omega)
  clear h hb1 hr1 hq hn
  go_enter Tryz.func16, Tryz.ntmps16
  go_wp2_with fail
  refine (putWord_any R1.out B1.out.size n (by omega) (by simp)).mono ?_
  rintro e w2 ⟨v2, rfl, h2⟩
  have B2 := Lib.hid (B1.out.trans h2.out.2)
  have hrow := h2.out.1
  rw [List.nil_append] at hrow
  obtain ⟨v3, w3, r3, o3, g3, _⟩ := app8 hrow B2.out.size (H.out.below B2.out) (by rw [bytesN_len]; have := HN.out; omega)
  have hb3 := B2.out.trans (below_grown g3 B2.out.size (ownsRow_ge hrow))
  have B3 := Lib.hid hb3
  have R3 := Lib.hid r3
  have O3 := Lib.hid o3
  obtain ⟨a2, c2, hf2, _⟩ := ownsRow_form h2.out.1
  clear h2 hrow hb3 r3 o3 g3
  generalize ([] ++ bytesN 4 n).length = n2 at hf2
  subst hf2
  go_wp2_with (at_builtin; refine wpList_append_run rfl _ _ 22 rfl rfl rfl (R3.out _) ?_)
  obtain ⟨a3, c3, hf3, _⟩ := ownsRow_form O3.out
  have HF3 := Lib.hid hf3
  generalize (bytesN 4 n ++ l).length = n3 at hf3
  subst hf3
  refine (Sum_any (l := bytesN 4 n ++ l) (HQ.out.below B3.out HQ.out.1) (Holds.of_row (by rw [u8s_len]; exact O3.out)) (by rw [List.length_append, bytesN_len]; have := HN.out; omega)).mono ?_
  rintro e w3' ⟨rfl, rfl⟩
  go_wp2_with fail
  refine (putWord_any O3.out B3.out.size (sumN (bytesN 4 n ++ l)) (by unfold sumN; omega) (by rw [List.length_append, bytesN_len]; have := HN.out; omega)).mono ?_
  rintro e w4 ⟨v4, rfl, h4⟩
  have B4 := Lib.hid (B3.out.trans h4.out.2)
  have R4 := Lib.hid h4.out.1
  clear h4
  go_wp2_with fail
  go_ret
  refine ⟨_, rfl, Lib.hid ⟨?_, B4.out⟩⟩
  have := R4.out
  rw [HN.out] at this
  exact this
end Go.Proofs.YtehfoaicohnpfaaGreatDoor
