/- Contracts of the closure of kmv's keep and of sort.Search over it: how many hashes lie below one. Conditions: a list that rises. -/
import Derived.Test.YtlhpbfjelgmkeaaGreatKmvPlain
import Derived.Test.YtlhpbfjelgmkeaaGreatThings
import Derived.Outline
set_option maxRecDepth 100000
namespace Go.Proofs.YtlhpbfjelgmkeaaGreat
open Go.RowKit Go.Maps Go.Sort

def nats (l : List Nat) : List Value := l.map fun n : Nat => .int .u64 (n : Int)
theorem nats_len (l : List Nat) : (nats l).length = l.length := by simp [nats]
theorem nats_at {l : List Nat} {k : Nat} (h : k < l.length) : (nats l)[k]? = some (.int .u64 (l[k] : Int)) := by simp [nats, h]
theorem nats_one (l : List Nat) : ∀ u ∈ nats l, u.oneCell' = true := fun u hu => by
  obtain ⟨c, _, rfl⟩ := List.mem_map.1 hu
  rfl

/-- answers in a world that has drawn no more than places of the tape -/
def Draws (v : Value) (w : World) (e : Ending) (w' : World) : Prop := e = .returned v ∧ ∃ n, w' = w.drewN n

set_option maxHeartbeats 800000 in
theorem clos_any {w : World} {la ha ad : Addr} {n c h k x : Nat} (hl : w.cell? la = some (.slice (some ad) n c)) (hh : w.cell? ha = some (.int .u64 (h : Int))) (hx : w.cell? (ad.add k) = some (.int .u64 (x : Int))) (hk : k < n) :
    Calls Tryz.prog 212 #[.int .i64 (k : Int), .pointer (some la), .pointer (some ha)] w (Draws (.bool (decide (h ≤ x))) w) := by
  have h0 : (0 : Int) ≤ (k : Int) := by omega
  have h1 : (k : Int) < (n : Int) := by omega
  go_enter Tryz.func212, Tryz.ntmps212
  go_wp2_with fail
  go_quiet (fail)
  go_wp2_with fail
  go_ret
  exact ⟨rfl, _, rfl⟩

set_option maxHeartbeats 1600000 in
theorem search_any {w : World} {la ha : Addr} {n cnt : Nat} (hn : n ≤ 1000000) (hc : cnt ≤ n)
    (hf : ∀ m k, k < n → Calls Tryz.prog 212 #[.int .i64 (k : Int), .pointer (some la), .pointer (some ha)] (w.drewN m) (Draws (.bool (decide (cnt ≤ k))) (w.drewN m))) :
    Calls Tryz.prog 211 #[.int .i64 (n : Int), .func (.func 212) #[] #[.pointer (some la), .pointer (some ha)]] w (Draws (.int .i64 (cnt : Int)) w) := by
  have HF := Lib.hid hf
  have HC := Lib.hid hc
  have HN := Lib.hid hn
  clear hf hc hn
  go_enter Tryz.func211, Tryz.ntmps211
  go_wp2_with fail
  go_loopw [5, 6] (fun i j wr => ∃ (lo hi m : Nat), i = .int .i64 lo ∧ j = .int .i64 hi ∧ Hid (lo ≤ cnt ∧ cnt ≤ hi ∧ hi ≤ n) ∧ wr = w.drewN m) (fun i j _ => ((intOf j) - (intOf i)).toNat)
  case atStart => exact ⟨0, n, 0, rfl, rfl, Lib.hid ⟨Nat.zero_le _, HC.out, Nat.le_refl _⟩, (World.drewN_zero _).symm⟩
  case round =>
    obtain ⟨lo, hi, m, rfl, rfl, HR, rfl⟩ := hrel
    have hln : lo ≤ 1000000 := by have := HR.out; have := HN.out; omega
    have hhn : hi ≤ 1000000 := by have := HR.out; have := HN.out; omega
    by_cases hlt : lo < hi
    · obtain ⟨mid, hm⟩ : ∃ mid : Nat, mid = (lo + hi) / 2 := ⟨_, rfl⟩
      have em : ((lo : Int) + (hi : Int)) / 2 = (mid : Int) := by omega
      have hm1 : lo ≤ mid := by omega
      have hm2 : mid < hi := by omega
      have K := HF.out m mid (by have := HR.out; omega)
      clear hm
      by_cases hcm : cnt ≤ mid
      · rw [decide_eq_true hcm] at K
        have HK := Lib.hid K
        have HCM := Lib.hid hcm
        clear hcm K
        go_wp2_with fail
        refine HK.out.mono ?_
        rintro e w' ⟨rfl, q, rfl⟩
        go_wp2_with fail
        go_roundw
        case rel => exact ⟨lo, mid, m + q, rfl, rfl, Lib.hid (by have := HR.out; have := HCM.out; omega), rfl⟩
        case measure => simp [intOf]; omega
      · rw [decide_eq_false hcm] at K
        have HK := Lib.hid K
        have HCM := Lib.hid hcm
        clear hcm K
        go_wp2_with fail
        refine HK.out.mono ?_
        rintro e w' ⟨rfl, q, rfl⟩
        go_wp2_with fail
        go_roundw
        case rel => exact ⟨mid + 1, hi, m + q, by go_num, rfl, Lib.hid (by have := HR.out; have := HCM.out; omega), rfl⟩
        case measure => simp [intOf]; omega
    · have HE := Lib.hid (show lo = cnt by have := HR.out; omega)
      go_wp2_with fail
      go_ret
      rw [HE.out]
      exact ⟨rfl, _, rfl⟩
end Go.Proofs.YtlhpbfjelgmkeaaGreat
