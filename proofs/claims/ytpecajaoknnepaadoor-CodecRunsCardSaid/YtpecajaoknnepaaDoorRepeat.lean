/- Contract of slices.Repeat on one number. Conditions: 1 to 100000 times. -/
import Derived.Test.YtpecajaoknnepaaDoorGen
import Derived.Test.YtpecajaoknnepaaDoorShelf
import Derived.Test.YtpecajaoknnepaaDoorCodecReadMain
import Derived.Laws.CopyOwn
import Derived.OwnWalk
import Derived.Deep.RegionLaw
set_option maxRecDepth 100000
namespace Go.Proofs.YtpecajaoknnepaaDoor
open Go.RowKit Go.Maps Go.Sort
attribute [local go_sem] Oper.semAt_some

/-- a row of n numbers, the first k of them u -/
def bufR (u : UInt64) (n k : Nat) : List Value := u64s (List.replicate k u ++ List.replicate (n - k) 0)
theorem bufR_len (u : UInt64) (n k : Nat) (h : k ≤ n) : (bufR u n k).length = n := by simp [bufR, u64s]; omega
theorem bufR_zero (u : UInt64) (n : Nat) : bufR u n 0 = u64s (List.replicate n 0) := by simp [bufR]
theorem bufR_full (u : UInt64) (n : Nat) : bufR u n n = u64s (List.replicate n u) := by simp [bufR]
theorem bufR_splice (u : UInt64) (n k m : Nat) : splice (bufR u n k) k (u64s (List.replicate m u)) = bufR u n (k + m) := by
  have e : n - k - m = n - (k + m) := by omega
  simp [splice, bufR, u64s, List.drop_append, ← List.append_assoc, e, List.replicate_append_replicate]
theorem bufR_at (u : UInt64) (n k j : Nat) (h : j < k) : (bufR u n k)[j]? = some (.int .u64 (u.toNat : Int)) := by
  simp [bufR, u64s, List.getElem?_append, h]
theorem u64s_rep_at (u : UInt64) (m j : Nat) (v : Value) (h : (u64s (List.replicate m u))[j]? = some v) : j < m ∧ v = .int .u64 (u.toNat : Int) := by
  rw [u64s, List.map_replicate, List.getElem?_replicate] at h
  split at h
  · rename_i hj; exact ⟨hj, (Option.some.inj h).symm⟩
  · cases h

theorem mul_one_run (n : Nat) (hn : n ≤ 100000) (W : World) : Calls Tryd.prog 66 #[.int .u64 1, .int .u64 (n : Int)] W fun e w' => e = .returned (.tuple #[.int .u64 0, .int .u64 (n : Int)]) ∧ W = w' := by
  refine (Tryd.bits_Mul 1 n (by decide) (by omega) W).mono ?_
  rintro e w' ⟨rfl, rfl⟩
  rw [Nat.one_mul, Nat.div_eq_of_lt (by omega), Nat.mod_eq_of_lt (by omega)]
  exact ⟨rfl, rfl⟩

theorem sizeU : (Tryd.prog.info? 23).map (·.size) = some 1 := by kernel_rfl
theorem copy_fill {w : World} {g n k m : Nat} {u : UInt64} (hg : w.heap[g]? = some (.cells (bufR u n k).toArray 23 (0, 0))) (hk : k ≤ n) (hm : k + m ≤ n) {src : Addr} (hsrc : ∀ j, j < m → w.cell? (src.add j) = some (.int .u64 (u.toNat : Int))) (dl dc sl sc : Nat) (hmin : m = Nat.min sl dl) :
    ∃ w', (∀ ty, (Builtin.copy_ #[34, 34] ty #[.slice (some ⟨g, k, none⟩) dl dc, .slice (some src) sl sc]).run Tryd.prog w = .ok (.int .i64 (m : Int)) w') ∧ w'.heap[g]? = some (.cells (bufR u n (k + m)).toArray 23 (0, 0)) ∧ ∀ B w0, Below B w0 w → B ≤ g → Below B w0 w' := by
  have hl : (u64s (List.replicate m u)).length = m := by simp [u64s]
  have hrun := fun ty => run_copy_row (P := Tryd.prog) w 34 34 ty 23 g k dl dc src sl sc (bufR u n k).toArray 23 (u64s (List.replicate m u)) Tryd.underlying34 sizeU hg (by rw [hl]; exact hmin)
    (fun j v hj => by obtain ⟨h1, rfl⟩ := u64s_rep_at u m j v hj; exact hsrc j h1) (by rw [hl, List.size_toArray, bufR_len _ _ _ hk]; exact hm) (u64s_one _)
  rw [hl] at hrun
  have e : ((bufR u n k).toArray.toList.take k ++ u64s (List.replicate m u) ++ (bufR u n k).toArray.toList.drop (k + m)) = bufR u n (k + m) := by
    rw [← bufR_splice u n k m, splice, hl, List.append_assoc]
  rw [e] at hrun
  exact ⟨_, hrun, setRow_heap w g _ _ _ _ hg, fun B w0 hb hB => below_setRow hb hB _⟩

set_option maxHeartbeats 1600000 in
theorem Repeat_one {w : World} {ad : Addr} (u : UInt64) (n : Nat) (h0 : 0 < n) (hn : n ≤ 100000) (h : w.cell? ad = some (.int .u64 (u.toNat : Int))) :
    Calls Tryd.prog 59 #[.slice (some ad) 1 1, .int .i64 (n : Int)] w fun e w' => ∃ v, e = .returned v ∧ Hid (Holds w' v (u64s (List.replicate n u)) ∧ Below w.heap.size w w') := by
  have H := Lib.hid h
  have H0 := Lib.hid h0
  have t0 : decide ((n : Int) < 0) = false := decide_eq_false (by omega)
  have KM := mul_one_run n hn
  have t1 : decide ((n : Int) > 9223372036854775807) = false := decide_eq_false (by omega)
  have hmk := fun W => mkU W n hn
  have HN := Lib.hid hn
  clear h h0
  go_enter Tryd.func59, Tryd.ntmps59
  go_wp2_with fail
  refine (KM _).mono ?_
  rintro e w' ⟨rfl, rfl⟩
  clear KM
  have hg1 : (w.alloc (.cells (u64s (List.replicate n 0)).toArray 23)).heap[w.heap.size]? = some (.cells (bufR u n 0).toArray 23 (0, 0)) := by rw [bufR_zero]; exact alloc1 _ _
  have hb1 : Below w.heap.size w (w.alloc (.cells (u64s (List.replicate n 0)).toArray 23)) := (Below.refl _ _).alloc (Nat.le_refl _) _
  have hc1 : (w.alloc (.cells (u64s (List.replicate n 0)).toArray 23)).cell? ad = some (.int .u64 (u.toNat : Int)) := by rw [hb1.cell (World.block_lt_of_cell? _ _ H.out)]; exact H.out
  obtain ⟨w1, hrun1, hg2, hb2⟩ := copy_fill hg1 (Nat.zero_le _) (m := 1) (by have := H0.out; omega) (src := ad) (fun j hj => by
    have : j = 0 := by omega
    subst this
    have e : ad.add 0 = ad := by unfold Addr.add; rw [if_pos rfl]
    rw [e]; exact hc1) n n 1 1 (Nat.min_eq_left H0.out).symm
  have hb3 := hb2 _ _ hb1 (Nat.le_refl _)
  clear hb2 hb1 hc1 hg1
  rw [Nat.zero_add] at hg2
  have HG := Lib.hid hg2
  have HB := Lib.hid hb3
  clear hg2 hb3
  go_wp2_with fail
  go_loopw [8] (fun c wr => ∃ k : Nat, c = .int .i64 (k : Int) ∧ 1 ≤ k ∧ k ≤ n ∧ Hid (wr.heap[w.heap.size]? = some (.cells (bufR u n k).toArray 23 (0, 0)) ∧ Below w.heap.size w wr)) (fun c _ => n - (intOf c).toNat)
  case atStart => exact ⟨1, rfl, Nat.le_refl _, H0.out, HG.out, HB.out⟩
  case round =>
    obtain ⟨k, rfl, h1, hk, HK⟩ := hrel
    by_cases hlt : k < n
    · have t2 : decide ((k : Int) < (n : Int)) = true := decide_eq_true (by omega)
      obtain ⟨m, hm, hm1, hm2, hm3⟩ : ∃ m, m = Nat.min k (n - k) ∧ 1 ≤ m ∧ k + m ≤ n ∧ m ≤ k := ⟨_, rfl, by show 1 ≤ min k (n - k); omega, by show k + min k (n - k) ≤ n; omega, by show min k (n - k) ≤ k; omega⟩
      obtain ⟨w2, hrun2, hg2, hb2⟩ := copy_fill (w := wr.drew) (k := k) (m := m) HK.out.1 hk hm2 (src := ⟨w.heap.size, 0, none⟩) (fun j hj => by
        rw [Addr.add_at, Nat.zero_add]
        show World.cell? wr.drew _ = _
        rw [cell_of_row _ _ _ _ _ _ (show wr.drew.heap[w.heap.size]? = _ from HK.out.1)]
        have := bufR_at u n k j (Nat.lt_of_lt_of_le hj hm3)
        simpa using this) (n - k) (n - k) k n hm
      have HG2 := Lib.hid (And.intro hg2 (hb2 w.heap.size w (show Below w.heap.size w wr.drew from HK.out.2.drew) (Nat.le_refl _)))
      clear hg2 hb2 hm
      have hlim : (k : Int) + (m : Int) ≤ 100000 := by omega
      go_wp2_with fail
      go_region
      go_wp2_with fail
      go_roundw
      case rel => exact ⟨k + m, by go_num, by omega, hm2, HG2.out.1, HG2.out.2⟩
      case measure => simp [intOf]; omega
    · have t2 : decide ((k : Int) < (n : Int)) = false := decide_eq_false (by omega)
      have : k = n := by omega
      subst this
      have HR : Hid (Holds wr (.slice (some ⟨w.heap.size, 0, none⟩) k k) (u64s (List.replicate k u)) ∧ Below w.heap.size w wr) := Lib.hid ⟨Holds.of_heap HK.out.1 (by rw [bufR_full]) k k (by rw [u64s_len, List.length_replicate]) (Nat.le_refl _), HK.out.2⟩
      go_wp2_with fail
      go_ret
      exact ⟨_, rfl, HR⟩
end Go.Proofs.YtpecajaoknnepaaDoor
