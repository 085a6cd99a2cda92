/- Contract of codec.Sum: a sum of 32 bits. Conditions: the table of 16 numbers reads as the program's text lays it. -/
import Derived.Test.YtehfoaicohnpfaaGreatDoorCodecPlain
import Derived.Test.YtehfoaicohnpfaaGreatDoorBits
import Derived.Outline
set_option maxRecDepth 100000
namespace Go.Proofs.YtehfoaicohnpfaaGreatDoor
open Go.RowKit Go.Maps Go.Sort

def quadL : List Nat := [0, 498536548, 997073096, 651767980, 1994146192, 1802195444, 1303535960, 1342533948, 3988292384, 4027552580, 3604390888, 3412177804, 2607071920, 2262029012, 2685067896, 3183342108]
def quad (i : Nat) : Nat := quadL.getD i 0
theorem quad_lt : ∀ i, i < 16 → quad i < 4294967296 := by decide

/-- the table lies where the program's text lays it -/
def Quads (w : World) : Prop := 0 < w.heap.size ∧ ∀ i, i < 16 → w.cell? ⟨0, i, none⟩ = some (.int .u32 (quad i : Int))
theorem Quads.below {w w' : World} {B : Nat} (h : Quads w) (hb : Below B w w') (hB : 0 < B) : Quads w' :=
  ⟨Nat.lt_of_lt_of_le h.1 hb.size, fun i hi => by rw [hb.cell (p := ⟨0, i, none⟩) hB]; exact h.2 i hi⟩

def sumStep (s : Nat) : Nat := s / 16 ^^^ quad (s % 16)
theorem sumStep_lt (s : Nat) (h : s < 4294967296) : sumStep s < 4294967296 := by
  unfold sumStep
  exact Nat.xor_lt_two_pow (n := 32) (by omega) (quad_lt _ (by omega))
def sumByte (s : Nat) (c : UInt8) : Nat := sumStep (sumStep (s ^^^ c.toNat))
theorem sumByte_lt (s : Nat) (c : UInt8) (h : s < 4294967296) : sumByte s c < 4294967296 := by
  have := c.toNat_lt
  exact sumStep_lt _ (sumStep_lt _ (Nat.xor_lt_two_pow (n := 32) (by omega) (by omega)))
def sumN (l : List UInt8) : Nat := 4294967295 - l.foldl sumByte 4294967295
theorem fold_lt (l : List UInt8) : ∀ s, s < 4294967296 → l.foldl sumByte s < 4294967296 := by
  induction l with
  | nil => exact fun s h => h
  | cons c r ih => exact fun s h => ih _ (sumByte_lt s c h)
theorem sum_example : sumN [49, 50, 51, 52, 53, 54, 55, 56, 57] = 3421780262 := by decide

theorem and15_u32 (s : Nat) (h : s < 4294967296) : bits .and .u32 (s : Int) 15 = ((s % 16 : Nat) : Int) := by
  rw [show (15 : Int) = 2 ^ 4 - 1 from rfl, bits_mask .u32 32 (Nat.le_refl _) wu32 4 (by decide) (s : Int) (by omega) (by omega)]
  simp
theorem step_walk (s : Nat) (h : s < 4294967296) : bits .xor .u32 ((s : Int) / 16) (quad (s % 16) : Int) = (sumStep s : Int) := by
  have := xor_u32 (s / 16) (quad (s % 16)) (by omega) (quad_lt _ (by omega))
  rw [show ((s / 16 : Nat) : Int) = (s : Int) / 16 by omega] at this
  exact this

set_option maxHeartbeats 1600000 in
theorem Sum_any {w : World} (hq : Quads w) {v : Value} {l : List UInt8} (h : Holds w v (u8s l)) (hl : l.length ≤ 17592186044416) :
    Calls Tryz.prog 35 #[v] w fun e w' => e = .returned (.int .u32 (sumN l : Int)) ∧ w = w' := by
  obtain ⟨a, c, hv, hc⟩ := h.form
  rw [u8s_len] at hv hc
  subst hv
  have H := Lib.hid h
  have HQ := Lib.hid hq
  generalize hn : l.length = n at *
  have HN := Lib.hid hn
  clear h hn hq
  go_enter Tryz.func35, Tryz.ntmps35
  go_wp2_with fail
  go_loop [3, 8] (fun s i => ∃ (k S : Nat), k ≤ n ∧ i = .int .i64 k ∧ s = .int .u32 S ∧ S < 4294967296 ∧ Hid ((l.drop k).foldl sumByte S = l.foldl sumByte 4294967295)) (fun _ i => n - (intOf i).toNat)
  case atStart => exact ⟨0, 4294967295, by omega, rfl, rfl, by omega, rfl⟩
  case round =>
    obtain ⟨k, S, hk, rfl, rfl, hS, HR⟩ := hrel
    by_cases hlt : k < n
    · have hkl : k < l.length := by rw [HN.out]; exact hlt
      obtain ⟨ad, rfl⟩ := H.out.ptr (by omega)
      have hc : w.cell? (ad.add k) = some (.int .u8 (l[k].toNat : Int)) := H.out.cell (by simp [u8s, hkl])
      have hx := l[k].toNat_lt
      have HE := Lib.hid HR.out
      rw [List.drop_eq_getElem_cons hkl, List.foldl_cons] at HE
      have s0 := xor_u32 S l[k].toNat hS (by omega)
      have b0 : S ^^^ l[k].toNat < 4294967296 := Nat.xor_lt_two_pow (n := 32) hS (by omega)
      have b1 := sumStep_lt _ b0
      have b2 := sumStep_lt _ b1
      have a1 := and15_u32 _ b0
      have a2 := and15_u32 _ b1
      have w1 := step_walk _ b0
      have w2 := step_walk _ b1
      have q1 := HQ.out.2 ((S ^^^ l[k].toNat) % 16) (by omega)
      have q2 := HQ.out.2 (sumStep (S ^^^ l[k].toNat) % 16) (by omega)
      have hb : sumByte S l[k] = sumStep (sumStep (S ^^^ l[k].toNat)) := rfl
      rw [hb] at HE
      have m1 : (S ^^^ l[k].toNat) % 16 < 16 := by omega
      have m2 : sumStep (S ^^^ l[k].toNat) % 16 < 16 := by omega
      clear hb
      generalize sumStep (sumStep (S ^^^ l[k].toNat)) = T2 at *
      generalize sumStep (S ^^^ l[k].toNat) = T1 at *
      generalize S ^^^ l[k].toNat = T0 at *
      generalize l[k].toNat = x at *
      generalize T0 % 16 = i0 at *
      generalize T1 % 16 = i1 at *
      go_wp2_with fail
      go_round
      case rel => exact ⟨k + 1, T2, by omega, by go_num, rfl, b2, HE.out⟩
      case measure => simp [intOf]; omega
    · have e := Lib.hid HR.out
      rw [List.drop_eq_nil_of_le (by rw [HN.out]; omega)] at e
      have hn := not_u32 S hS
      have E : Hid (((sumN l : Nat) : Int) = 4294967295 - (S : Int)) := Lib.hid (by
        unfold sumN; rw [← e.out]
        simp; omega)
      go_wp2_with fail
      go_ret
      rw [E.out]
      exact ⟨rfl, rfl⟩
end Go.Proofs.YtehfoaicohnpfaaGreatDoor
