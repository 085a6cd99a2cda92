/- The texts Repeat CodecFaceI, one behind the other; each one's own comment says what it holds. -/
import Derived.Test.YtcpfkinjglnabaaPackAA
import Derived.Test.YtcpfkinjglnabaaShelf
import Derived.Test.YtcpfkinjglnabaaPackAK
import Derived.Laws.CopyOwn
import Derived.OwnWalk
import Derived.Deep.RegionLaw
import Derived.Tactics
import Derived.Tactics2
import Derived.Defers
import Derived.Recover
import Derived.Laws.Pointers
/- Contract of slices.Repeat on one number. Conditions: 1 to 100000 times. -/
set_option maxRecDepth 100000
namespace Go.Proofs.Ytcpfkinjglnabaa
open Go.RowKit Go.Maps Go.Sort
attribute [local go_sem] Oper.semAt_some

/-- a row of n numbers, the first k of them u -/
def bufR (u : UInt64) (n k : Nat) : List Value := u64s (List.replicate k u ++ List.replicate (n - k) 0)
theorem bufR_len (u : UInt64) (n k : Nat) (h : k ≤ n) : (bufR u n k).length = n := by simp [bufR, u64s]; omega
theorem bufR_zero (u : UInt64) (n : Nat) : bufR u n 0 = u64s (List.replicate n 0) := by simp [bufR]
theorem bufR_full (u : UInt64) (n : Nat) : bufR u n n = u64s (List.replicate n u) := by simp [bufR]
theorem bufR_splice (u : UInt64) (n k m : Nat) : splice (bufR u n k) k (u64s (List.replicate m u)) = bufR u n (k + m) := by
  have e : n - k - m = n - (k + m) := by omega
  simp [splice, bufR, u64s, List.drop_append, ← List.append_assoc, e, List.replicate_append_replicate]
theorem bufR_at (u : UInt64) (n k j : Nat) (h : j < k) : (bufR u n k)[j]? = some (.int .u64 (u.toNat : Int)) := by
  simp [bufR, u64s, List.getElem?_append, h]
theorem u64s_rep_at (u : UInt64) (m j : Nat) (v : Value) (h : (u64s (List.replicate m u))[j]? = some v) : j < m ∧ v = .int .u64 (u.toNat : Int) := by
  rw [u64s, List.map_replicate, List.getElem?_replicate] at h
  split at h
  · rename_i hj; exact ⟨hj, (Option.some.inj h).symm⟩
  · cases h

theorem mul_one_run (n : Nat) (hn : n ≤ 100000) (W : World) : Calls Try.prog 141 #[.int .u64 1, .int .u64 (n : Int)] W fun e w' => e = .returned (.tuple #[.int .u64 0, .int .u64 (n : Int)]) ∧ W = w' := by
  refine (Try.bits_Mul 1 n (by decide) (by omega) W).mono ?_
  rintro e w' ⟨rfl, rfl⟩
  rw [Nat.one_mul, Nat.div_eq_of_lt (by omega), Nat.mod_eq_of_lt (by omega)]
  exact ⟨rfl, rfl⟩

theorem sizeU : (Try.prog.info? 116).map (·.size) = some 1 := by kernel_rfl
theorem copy_fill {w : World} {g n k m : Nat} {u : UInt64} (hg : w.heap[g]? = some (.cells (bufR u n k).toArray 116 (0, 0))) (hk : k ≤ n) (hm : k + m ≤ n) {src : Addr} (hsrc : ∀ j, j < m → w.cell? (src.add j) = some (.int .u64 (u.toNat : Int))) (dl dc sl sc : Nat) (hmin : m = Nat.min sl dl) :
    ∃ w', (∀ ty, (Builtin.copy_ #[118, 118] ty #[.slice (some ⟨g, k, none⟩) dl dc, .slice (some src) sl sc]).run Try.prog w = .ok (.int .i64 (m : Int)) w') ∧ w'.heap[g]? = some (.cells (bufR u n (k + m)).toArray 116 (0, 0)) ∧ ∀ B w0, Below B w0 w → B ≤ g → Below B w0 w' := by
  have hl : (u64s (List.replicate m u)).length = m := by simp [u64s]
  have hrun := fun ty => run_copy_row (P := Try.prog) w 118 118 ty 116 g k dl dc src sl sc (bufR u n k).toArray 116 (u64s (List.replicate m u)) Try.underlying118 sizeU hg (by rw [hl]; exact hmin)
    (fun j v hj => by obtain ⟨h1, rfl⟩ := u64s_rep_at u m j v hj; exact hsrc j h1) (by rw [hl, List.size_toArray, bufR_len _ _ _ hk]; exact hm) (u64s_one _)
  rw [hl] at hrun
  have e : ((bufR u n k).toArray.toList.take k ++ u64s (List.replicate m u) ++ (bufR u n k).toArray.toList.drop (k + m)) = bufR u n (k + m) := by
    rw [← bufR_splice u n k m, splice, hl, List.append_assoc]
  rw [e] at hrun
  exact ⟨_, hrun, setRow_heap w g _ _ _ _ hg, fun B w0 hb hB => below_setRow hb hB _⟩

set_option maxHeartbeats 1600000 in
theorem Repeat_one {w : World} {ad : Addr} (u : UInt64) (n : Nat) (h0 : 0 < n) (hn : n ≤ 100000) (h : w.cell? ad = some (.int .u64 (u.toNat : Int))) :
    Calls Try.prog 136 #[.slice (some ad) 1 1, .int .i64 (n : Int)] w fun e w' => ∃ v, e = .returned v ∧ Hid (Holds w' v (u64s (List.replicate n u)) ∧ Below w.heap.size w w') := by
  have H := Lib.hid h
  have H0 := Lib.hid h0
  have t0 : decide ((n : Int) < 0) = false := decide_eq_false (by omega)
  have KM := mul_one_run n hn
  have t1 : decide ((n : Int) > 9223372036854775807) = false := decide_eq_false (by omega)
  have hmk := fun W => mkU W n hn
  have HN := Lib.hid hn
  clear h h0
  go_enter Try.func136, Try.ntmps136
  go_wp2_with fail
  refine (KM _).mono ?_
  rintro e w' ⟨rfl, rfl⟩
  clear KM
  have hg1 : (w.alloc (.cells (u64s (List.replicate n 0)).toArray 116)).heap[w.heap.size]? = some (.cells (bufR u n 0).toArray 116 (0, 0)) := by rw [bufR_zero]; exact alloc1 _ _
  have hb1 : Below w.heap.size w (w.alloc (.cells (u64s (List.replicate n 0)).toArray 116)) := (Below.refl _ _).alloc (Nat.le_refl _) _
  have hc1 : (w.alloc (.cells (u64s (List.replicate n 0)).toArray 116)).cell? ad = some (.int .u64 (u.toNat : Int)) := by rw [hb1.cell (World.block_lt_of_cell? _ _ H.out)]; exact H.out
  obtain ⟨w1, hrun1, hg2, hb2⟩ := copy_fill hg1 (Nat.zero_le _) (m := 1) (by have := H0.out; omega) (src := ad) (fun j hj => by
    have : j = 0 := by omega
    subst this
    have e : ad.add 0 = ad := by unfold Addr.add; rw [if_pos rfl]
    rw [e]; exact hc1) n n 1 1 (Nat.min_eq_left H0.out).symm
  have hb3 := hb2 _ _ hb1 (Nat.le_refl _)
  clear hb2 hb1 hc1 hg1
  rw [Nat.zero_add] at hg2
  have HG := Lib.hid hg2
  have HB := Lib.hid hb3
  clear hg2 hb3
  go_wp2_with fail
  go_loopw [8] (fun c wr => ∃ k : Nat, c = .int .i64 (k : Int) ∧ 1 ≤ k ∧ k ≤ n ∧ Hid (wr.heap[w.heap.size]? = some (.cells (bufR u n k).toArray 116 (0, 0)) ∧ Below w.heap.size w wr)) (fun c _ => n - (intOf c).toNat)
  case atStart => exact ⟨1, rfl, Nat.le_refl _, H0.out, HG.out, HB.out⟩
  case round =>
    obtain ⟨k, rfl, h1, hk, HK⟩ := hrel
    by_cases hlt : k < n
    · have t2 : decide ((k : Int) < (n : Int)) = true := decide_eq_true (by omega)
      obtain ⟨m, hm, hm1, hm2, hm3⟩ : ∃ m, m = Nat.min k (n - k) ∧ 1 ≤ m ∧ k + m ≤ n ∧ m ≤ k := ⟨_, rfl, by show 1 ≤ min k (n - k); omega, by show k + min k (n - k) ≤ n; omega, by show min k (n - k) ≤ k; omega⟩
      obtain ⟨w2, hrun2, hg2, hb2⟩ := copy_fill (w := wr.drew) (k := k) (m := m) HK.out.1 hk hm2 (src := ⟨w.heap.size, 0, none⟩) (fun j hj => by
        rw [Addr.add_at, Nat.zero_add]
        show World.cell? wr.drew _ = _
        rw [cell_of_row _ _ _ _ _ _ (show wr.drew.heap[w.heap.size]? = _ from HK.out.1)]
        have := bufR_at u n k j (Nat.lt_of_lt_of_le hj hm3)
        simpa using this) (n - k) (n - k) k n hm
      have HG2 := Lib.hid (And.intro hg2 (hb2 w.heap.size w (show Below w.heap.size w wr.drew from HK.out.2.drew) (Nat.le_refl _)))
      clear hg2 hb2 hm
      have hlim : (k : Int) + (m : Int) ≤ 100000 := by omega
      go_wp2_with fail
      go_region
      go_wp2_with fail
      go_roundw
      case rel => exact ⟨k + m, by go_num, by omega, hm2, HG2.out.1, HG2.out.2⟩
      case measure => simp [intOf]; omega
    · have t2 : decide ((k : Int) < (n : Int)) = false := decide_eq_false (by omega)
      have : k = n := by omega
      subst this
      have HR : Hid (Holds wr (.slice (some ⟨w.heap.size, 0, none⟩) k k) (u64s (List.replicate k u)) ∧ Below w.heap.size w wr) := Lib.hid ⟨Holds.of_heap HK.out.1 (by rw [bufR_full]) k k (by rw [u64s_len, List.length_replicate]) (Nat.le_refl _), HK.out.2⟩
      go_wp2_with fail
      go_ret
      exact ⟨_, rfl, HR⟩
end Go.Proofs.Ytcpfkinjglnabaa
/- Contracts of codec.face at int: what read answers, or the error that it panics with. Conditions: none. -/
set_option maxRecDepth 100000
namespace Go.Proofs.Ytcpfkinjglnabaa
open Go.RowKit Go.Maps Go.Sort

theorem assert_errnoI (n : Int) (W : World) : (Instr.typeAssert (.iface 31 (.int .i64 n)) 20 31 true).run Try.prog W = .ok (.tuple #[.int .i64 n, .bool true]) W := by kernel_rfl

theorem catch_idleI (p q : Addr) (w : World) :
    CallsD Try.prog 137 #[.pointer (some p), .pointer (some q)] .returning w fun e u' w' => e = .returned (.tuple #[]) ∧ u' = .returning ∧ w' = w := by
  refine callsD_of_wpS Try.func137 rfl fun c₀ cs hu => ?_
  apply wpS_seq
  apply wpS_region
  simp [wpOpsS, go_sem, recoverD, hu, Try.ntmps137, Exit.thenS]
  simp only [Array.replicate_succ, Array.replicate_zero, List.push_toArray, List.append_toArray, List.nil_append, List.cons_append, List.setIfInBounds_toArray, List.set_cons_succ, List.set_cons_zero]
  refine wpS_of_wp ?_
  go_wp2
  cases c₀
  simp_all [bodyPostS, results, Try.results137]

set_option maxHeartbeats 800000 in
theorem catch_errnoI (b c : Nat) (n : Int) (w : World) (hp : w.cell? ⟨b, 0, none⟩ = some (.slice none 0 0)) (hpf : w.frozen? ⟨b, 0, none⟩ = false) (hq : w.cell? ⟨c, 0, none⟩ = some (.int .i64 0)) (hqf : w.frozen? ⟨c, 0, none⟩ = false) (hne : b ≠ c) :
    CallsD Try.prog 137 #[.pointer (some ⟨b, 0, none⟩), .pointer (some ⟨c, 0, none⟩)] (.panicking [{ v := .iface 31 (.int .i64 n), recovered := false }]) w fun e u' w' =>
      e = .returned (.tuple #[]) ∧ u' = .panicking [{ v := .iface 31 (.int .i64 n), recovered := true }] ∧ w' = ((w.setCell ⟨b, 0, none⟩ (.slice none 0 0)).setCell ⟨c, 0, none⟩ (.int .i64 8)).setCell ⟨c, 0, none⟩ (.int .i64 n) := by
  refine callsD_of_wpS Try.func137 rfl fun c₀ cs hu => ?_
  apply wpS_seq
  apply wpS_region
  simp [wpOpsS, go_sem, recoverD, hu, Try.ntmps137, Exit.thenS]
  simp only [Array.replicate_succ, Array.replicate_zero, List.push_toArray, List.append_toArray, List.nil_append, List.cons_append, List.setIfInBounds_toArray, List.set_cons_succ, List.set_cons_zero]
  refine wpS_of_wp ?_
  have hc := Ne.symm hne
  have hta := assert_errnoI n
  go_wp2
  cases c₀
  simp_all [bodyPostS, results, Try.results137]

theorem below2rI (w : World) (A B : Obj) : Below w.heap.size w ((w.alloc A).alloc B) := ((Below.refl _ _).alloc (Nat.le_refl _) _).alloc (by simp) _

set_option maxHeartbeats 800000 in
theorem faceI_ok {w : World} {g : Nat} {caps : Array Value} (heg : ∀ args w, (callFunc g args).run Try.prog w = .ok (.enter g args) w) {xs : List Value} {k : Nat}
    (hcall : ∀ W, Below w.heap.size w W → Calls Try.prog g caps W fun e w' => ∃ v, e = .returned v ∧ Hid (w'.ownsRow W.heap.size 3 1 v k xs ∧ Below W.heap.size W w')) :
    Calls Try.prog 124 #[.func (.func g) #[] caps] w fun e w' => ∃ v, e = .returned (.tuple #[v, .int .i64 0]) ∧ Hid (w'.ownsRow w.heap.size 3 1 v k xs ∧ Below w.heap.size w w') := by
  have hmf : ∀ (fn : Fn) (first cap : Array Value) (w : World), (Instr.makeFunc fn first cap).run Try.prog w = .ok (.func fn first cap) w := fun _ _ _ _ => rfl
  have HC := Lib.hid hcall
  clear hcall
  go_enter_defers Try.func124, Try.ntmps124
  go_wp2_with fail
  refine (HC.out _ (below2rI _ _ _)).mono ?_
  rintro e w1 ⟨v, rfl, h1⟩
  obtain ⟨va, vc, hv, _⟩ := ownsRow_form h1.out.1
  have hB := h1.out.2
  have a0 : w1.heap[w.heap.size]? = some (.cells #[.slice none 0 0] 25 (0, 0)) :=
    (hB.block _ (by simp; omega)).trans ((Below.heap_alloc _ _ _ (by simp)).trans (alloc1 _ _))
  have a1 : w1.heap[w.heap.size + 1]? = some (.cells #[.int .i64 0] 31 (0, 0)) := by
    have := alloc1 (w.alloc (Obj.cells #[Value.slice none 0 0] 25)) (Obj.cells #[Value.int IntKind.i64 0] 31)
    exact (hB.block _ (by simp)).trans (by simpa using this)
  have c0 : w1.cell? ⟨w.heap.size, 0, none⟩ = some (.slice none 0 0) := by rw [cell_of_row _ _ _ _ _ _ a0]; rfl
  have c1 : w1.cell? ⟨w.heap.size + 1, 0, none⟩ = some (.int .i64 0) := by rw [cell_of_row _ _ _ _ _ _ a1]; rfl
  have f0 := free_of_row a0 0
  have f1 := free_of_row a1 0
  have b0 := heap_set (j := 0) a0 v
  have b1 := heap_set (j := 0) ((Below.heap_setCell w1 ⟨w.heap.size, 0, none⟩ v (w.heap.size + 1) (by simp)).trans a1) (.int .i64 0)
  have b2 := (Below.heap_setCell (w1.setCell ⟨w.heap.size, 0, none⟩ v) ⟨w.heap.size + 1, 0, none⟩ (.int .i64 0) w.heap.size (by simp)).trans b0
  have d0 : ((w1.setCell ⟨w.heap.size, 0, none⟩ v).setCell ⟨w.heap.size + 1, 0, none⟩ (.int .i64 0)).cell? ⟨w.heap.size, 0, none⟩ = some v := by rw [cell_of_row _ _ _ _ _ _ b2]; rfl
  have d1 : ((w1.setCell ⟨w.heap.size, 0, none⟩ v).setCell ⟨w.heap.size + 1, 0, none⟩ (.int .i64 0)).cell? ⟨w.heap.size + 1, 0, none⟩ = some (.int .i64 0) := by rw [cell_of_row _ _ _ _ _ _ b1]; rfl
  have hbel : Below w.heap.size w ((w1.setCell ⟨w.heap.size, 0, none⟩ v).setCell ⟨w.heap.size + 1, 0, none⟩ (.int .i64 0)) :=
    (((below2rI w _ _).trans (hB.mono (by simp; omega))).setCell (p := ⟨w.heap.size, 0, none⟩) (Nat.le_refl _) _).setCell (p := ⟨w.heap.size + 1, 0, none⟩) (by simp) _
  have hge := ownsRow_ge h1.out.1
  have hhold : ((w1.setCell ⟨w.heap.size, 0, none⟩ v).setCell ⟨w.heap.size + 1, 0, none⟩ (.int .i64 0)).ownsRow w.heap.size 3 1 v k xs := by
    refine ownsRow_rebase (ownsRow_of_block h1.out.1 fun g hg => ?_) fun g hg => ?_
    · have := hge g hg
      simp at this
      exact (Below.heap_setCell _ _ _ g (by simp; omega)).trans (Below.heap_setCell _ _ _ g (by simp; omega))
    · have := hge g hg
      simp at this
      omega
  have HFIN := Lib.hid (And.intro hhold hbel)
  subst hv
  clear h1 hB a0 a1 b0 b1 b2 hbel hhold hge
  go_wp2_with fail
  refine leaves_cons (f := 137) (args := #[.pointer (some ⟨w.heap.size, 0, none⟩), .pointer (some ⟨w.heap.size + 1, 0, none⟩)]) (by simp) (by simp [go_sem]) ?_
  refine (catch_idleI _ _ _).mono ?_
  rintro e u' w'' ⟨rfl, rfl, rfl⟩
  simp [Leaves, settle, results, Try.results124, go_sem, d0, d1]
  exact HFIN

set_option maxHeartbeats 800000 in
theorem faceI_panic {w : World} {g : Nat} {caps : Array Value} (heg : ∀ args w, (callFunc g args).run Try.prog w = .ok (.enter g args) w) {n : Int}
    (hcall : ∀ W, Below w.heap.size w W → Calls Try.prog g caps W fun e w' => e = .panicked [{ v := .iface 31 (.int .i64 n), recovered := false }] ∧ Below W.heap.size W w') :
    Calls Try.prog 124 #[.func (.func g) #[] caps] w fun e w' => e = .returned (.tuple #[.slice none 0 0, .int .i64 n]) ∧ Below w.heap.size w w' := by
  have hmf : ∀ (fn : Fn) (first cap : Array Value) (w : World), (Instr.makeFunc fn first cap).run Try.prog w = .ok (.func fn first cap) w := fun _ _ _ _ => rfl
  have HC := Lib.hid hcall
  clear hcall
  go_enter_defers Try.func124, Try.ntmps124
  go_wp2_with fail
  refine (HC.out _ (below2rI _ _ _)).mono ?_
  rintro e w1 ⟨rfl, hB⟩
  have a0 : w1.heap[w.heap.size]? = some (.cells #[.slice none 0 0] 25 (0, 0)) :=
    (hB.block _ (by simp; omega)).trans ((Below.heap_alloc _ _ _ (by simp)).trans (alloc1 _ _))
  have a1 : w1.heap[w.heap.size + 1]? = some (.cells #[.int .i64 0] 31 (0, 0)) := by
    have := alloc1 (w.alloc (Obj.cells #[Value.slice none 0 0] 25)) (Obj.cells #[Value.int IntKind.i64 0] 31)
    exact (hB.block _ (by simp)).trans (by simpa using this)
  have c0 : w1.cell? ⟨w.heap.size, 0, none⟩ = some (.slice none 0 0) := by rw [cell_of_row _ _ _ _ _ _ a0]; rfl
  have c1 : w1.cell? ⟨w.heap.size + 1, 0, none⟩ = some (.int .i64 0) := by rw [cell_of_row _ _ _ _ _ _ a1]; rfl
  have f0 := free_of_row a0 0
  have f1 := free_of_row a1 0
  go_wp2_with fail
  refine leaves_cons (f := 137) (args := #[.pointer (some ⟨w.heap.size, 0, none⟩), .pointer (some ⟨w.heap.size + 1, 0, none⟩)]) (by simp) (by simp [go_sem]) ?_
  refine (catch_errnoI _ _ n _ c0 f0 c1 f1 (by omega)).mono ?_
  rintro e u' w'' ⟨rfl, rfl, rfl⟩
  have b0 := heap_set (j := 0) a0 (.slice none 0 0)
  have b1 := heap_set (j := 0) ((Below.heap_setCell w1 ⟨w.heap.size, 0, none⟩ (.slice none 0 0) (w.heap.size + 1) (by simp)).trans a1) (.int .i64 8)
  have b2 := heap_set (j := 0) b1 (.int .i64 n)
  have b3 := (Below.heap_setCell ((w1.setCell ⟨w.heap.size, 0, none⟩ (.slice none 0 0)).setCell ⟨w.heap.size + 1, 0, none⟩ (.int .i64 8)) ⟨w.heap.size + 1, 0, none⟩ (.int .i64 n) w.heap.size (by simp)).trans ((Below.heap_setCell (w1.setCell ⟨w.heap.size, 0, none⟩ (.slice none 0 0)) ⟨w.heap.size + 1, 0, none⟩ (.int .i64 8) w.heap.size (by simp)).trans b0)
  have d0 : (((w1.setCell ⟨w.heap.size, 0, none⟩ (.slice none 0 0)).setCell ⟨w.heap.size + 1, 0, none⟩ (.int .i64 8)).setCell ⟨w.heap.size + 1, 0, none⟩ (.int .i64 n)).cell? ⟨w.heap.size, 0, none⟩ = some (.slice none 0 0) := by rw [cell_of_row _ _ _ _ _ _ b3]; rfl
  have d1 : (((w1.setCell ⟨w.heap.size, 0, none⟩ (.slice none 0 0)).setCell ⟨w.heap.size + 1, 0, none⟩ (.int .i64 8)).setCell ⟨w.heap.size + 1, 0, none⟩ (.int .i64 n)).cell? ⟨w.heap.size + 1, 0, none⟩ = some (.int .i64 n) := by rw [cell_of_row _ _ _ _ _ _ b2]; rfl
  have hbel : Below w.heap.size w (((w1.setCell ⟨w.heap.size, 0, none⟩ (.slice none 0 0)).setCell ⟨w.heap.size + 1, 0, none⟩ (.int .i64 8)).setCell ⟨w.heap.size + 1, 0, none⟩ (.int .i64 n)) :=
    ((((below2rI w _ _).trans (hB.mono (by simp; omega))).setCell (p := ⟨w.heap.size, 0, none⟩) (Nat.le_refl _) _).setCell (p := ⟨w.heap.size + 1, 0, none⟩) (by simp) _).setCell (p := ⟨w.heap.size + 1, 0, none⟩) (by simp) _
  have HFIN := Lib.hid hbel
  clear hbel
  simp [Leaves, settle, results, Try.results124, go_sem, d0, d1]
  exact HFIN.out
end Go.Proofs.Ytcpfkinjglnabaa
