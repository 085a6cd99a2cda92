/- Contracts of the name tests: vfs.goodByte, vfs.Good and talusref01.Good answer whether a name is good. Conditions: none. -/
import Derived.Test.YtddhhgbbeeeieaaRows
import Derived.WalkKit
import Derived.WalkSpells
import Derived.WalkLawsBesides
import Derived.Lib.Hide
import Derived.Deep.Light
namespace Go.Proofs.Ytddhhgbbeeeieaa
open Go.RowKit

theorem ret_bool {a b : Bool} (h : a = b) : Ending.returned (.bool a) = Ending.returned (.bool b) := by rw [h]
theorem ret_int {k : IntKind} {a b : Int} (h : a = b) : Ending.returned (.int k a) = Ending.returned (.int k b) := by rw [h]

/-- may this byte stand in a name? -/
def goodB (c : UInt8) : Bool := decide ((97 ≤ c.toNat ∧ c.toNat ≤ 122) ∨ (48 ≤ c.toNat ∧ c.toNat ≤ 57) ∨ c.toNat = 46 ∨ c.toNat = 45)

/-- may a file be called so? -/
def goodL (l : List UInt8) : Bool := decide (1 ≤ l.length ∧ l.length ≤ 32) && l.all goodB

theorem goodL_short {l : List UInt8} (h : l.length < 1) : goodL l = false := by
  unfold goodL; rw [decide_eq_false (by omega)]; rfl
theorem goodL_long {l : List UInt8} (h : 32 < l.length) : goodL l = false := by
  unfold goodL; rw [decide_eq_false (by omega)]; rfl
theorem goodL_mid {l : List UInt8} (h1 : ¬ l.length < 1) (h2 : ¬ 32 < l.length) : goodL l = l.all goodB := by
  unfold goodL; rw [decide_eq_true (by omega)]; rfl

theorem sz (s : ByteArray) : s.data.toList.length = s.size := by rw [Array.length_toList]; rfl
theorem take_snoc (s : ByteArray) (k : Nat) (h : k < s.size) : s.data.toList.take (k + 1) = s.data.toList.take k ++ [s[k]] := by
  rw [List.take_succ_eq_append_getElem (by simpa using h)]; rfl
theorem all_no {l : List UInt8} {p : UInt8 → Bool} {c : UInt8} (h : c ∈ l) (hp : p c = false) : l.all p = false := by
  rw [List.all_eq_false]; exact ⟨c, h, by simp [hp]⟩
theorem mem_at (s : ByteArray) (k : Nat) (h : k < s.size) : s[k] ∈ s.data.toList := by
  have : s[k] = s.data.toList[k]'(by simpa using h) := rfl
  rw [this]; exact List.getElem_mem _
theorem all_take (s : ByteArray) (k : Nat) (p : UInt8 → Bool) (h : ¬ k < s.size) (ha : (s.data.toList.take k).all p = true) : s.data.toList.all p = true := by
  rwa [List.take_of_length_le (by rw [sz]; omega)] at ha
theorem all_snoc (s : ByteArray) (k : Nat) (p : UInt8 → Bool) (h : k < s.size) (ha : (s.data.toList.take k).all p = true) (hp : p s[k] = true) : (s.data.toList.take (k + 1)).all p = true := by
  rw [take_snoc s k h, List.all_append, ha]; simp [hp]

set_option maxHeartbeats 400000 in
theorem goodByte_any (c : UInt8) (w : World) :
    Calls Try.prog 42 #[.int .u8 (c.toNat : Int)] w fun e w' => e = .returned (.bool (goodB c)) ∧ w = w' := by
  go_enter Try.func42, Try.ntmps42
  go_wp2
  all_goals
    go_ret
    refine ⟨ret_bool ?_, rfl⟩
    unfold goodB
    rw [Bool.eq_iff_iff]
    simp
    omega

set_option maxHeartbeats 400000 in
theorem Good_any (s : ByteArray) (w : World) (hs : s.size ≤ maxLen) :
    Calls Try.prog 13 #[.string s] w fun e w' => e = .returned (.bool (goodL s.data.toList)) ∧ w = w' := by
  unfold maxLen at hs
  by_cases h1 : s.size < 1
  · go_enter Try.func13, Try.ntmps13
    go_wp2
    go_ret
    exact ⟨ret_bool (goodL_short (by rw [sz]; omega)).symm, rfl⟩
  · by_cases h2 : 32 < s.size
    · go_enter Try.func13, Try.ntmps13
      go_wp2
      go_ret
      exact ⟨ret_bool (goodL_long (by rw [sz]; omega)).symm, rfl⟩
    · have HG := Lib.hid (goodL_mid (l := s.data.toList) (by rw [sz]; omega) (by rw [sz]; omega))
      go_enter Try.func13, Try.ntmps13
      go_wp2
      go_loop [3, 14] (fun _ i => ∃ k : Nat, k ≤ s.size ∧ i = .int .i64 k ∧ (s.data.toList.take k).all goodB = true) (fun _ i => s.size - (intOf i).toNat)
      case atStart => exact ⟨0, Nat.zero_le _, rfl, rfl⟩
      case round =>
        obtain ⟨k, hk, rfl, hall0⟩ := hrel
        have hall := Lib.hid hall0
        clear hall0
        by_cases hlt : k < s.size
        · by_cases hg : goodB s[k] = true
          · go_wp2_with (go_at_call 42; refine (goodByte_any _ _).mono ?_; rintro e w' ⟨rfl, rfl⟩)
            go_round
            case rel => exact ⟨k + 1, by omega, by go_num, all_snoc s k _ hlt hall.out hg⟩
            case measure => simp [intOf]; omega
          · have hg' : goodB s[k] = false := by simpa using hg
            clear hg
            go_wp2_with (go_at_call 42; refine (goodByte_any _ _).mono ?_; rintro e w' ⟨rfl, rfl⟩)
            go_ret
            exact ⟨ret_bool (by rw [HG.out, all_no (mem_at s k hlt) hg']), rfl⟩
        · go_wp2
          go_ret
          exact ⟨ret_bool (by rw [HG.out, all_take s k _ hlt hall.out]), rfl⟩

set_option maxHeartbeats 800000 in
theorem refGood_any (s : ByteArray) (w : World) (hs : s.size ≤ maxLen) :
    Calls Try.prog 14 #[.string s] w fun e w' => e = .returned (.bool (goodL s.data.toList)) ∧ w = w' := by
  unfold maxLen at hs
  go_enter Try.func14, Try.ntmps14
  go_wp2
  go_loop [3, 4] (fun i _ => ∃ k : Nat, k ≤ s.size ∧ i = .int .i64 k ∧ (s.data.toList.take k).all goodB = true) (fun i _ => s.size - (intOf i).toNat)
  case atStart => exact ⟨0, Nat.zero_le _, rfl, rfl⟩
  case round =>
    obtain ⟨k, hk, rfl, hall0⟩ := hrel
    have hall := Lib.hid hall0
    clear hall0
    by_cases hlt : k < s.size
    · by_cases hg : goodB s[k] = true
      · have hgo : (97 ≤ s[k].toNat ∧ s[k].toNat ≤ 122) ∨ (48 ≤ s[k].toNat ∧ s[k].toNat ≤ 57) ∨ s[k].toNat = 46 ∨ s[k].toNat = 45 := of_decide_eq_true hg
        have Hg := Lib.hid hg
        clear hg
        have Ho := Lib.hid hgo
        clear hgo
        go_wp2
        all_goals
          first
          | (go_round
             case rel => exact ⟨k + 1, by omega, by go_num, all_snoc s k _ hlt hall.out Hg.out⟩
             case measure => simp [intOf]; omega)
          | (exfalso; have := Ho.out; go_light; simp at *; omega)
      · have hgo : ¬ ((97 ≤ s[k].toNat ∧ s[k].toNat ≤ 122) ∨ (48 ≤ s[k].toNat ∧ s[k].toNat ≤ 57) ∨ s[k].toNat = 46 ∨ s[k].toNat = 45) := fun h => hg (decide_eq_true h)
        have Hg := Lib.hid hg
        clear hg
        have Ho := Lib.hid hgo
        clear hgo
        go_wp2
        all_goals
          first
          | (go_ret
             exact ⟨ret_bool (by
               by_cases h1 : s.size < 1
               · rw [goodL_short (by rw [sz]; omega)]
               · by_cases h2 : 32 < s.size
                 · rw [goodL_long (by rw [sz]; omega)]
                 · rw [goodL_mid (by rw [sz]; omega) (by rw [sz]; omega), all_no (mem_at s k hlt) (by simpa using Hg.out)]), rfl⟩)
          | (exfalso; have := Ho.out; go_light; simp at *; omega)
    · by_cases h1 : s.size < 1
      · go_wp2
        go_ret
        exact ⟨ret_bool (goodL_short (by rw [sz]; omega)).symm, rfl⟩
      · by_cases h2 : 32 < s.size
        · go_wp2
          go_ret
          exact ⟨ret_bool (by rw [goodL_long (by rw [sz]; omega)]; simp; omega), rfl⟩
        · go_wp2
          go_ret
          exact ⟨ret_bool (by rw [goodL_mid (by rw [sz]; omega) (by rw [sz]; omega), all_take s k _ hlt hall.out]; simp; omega), rfl⟩
end Go.Proofs.Ytddhhgbbeeeieaa
