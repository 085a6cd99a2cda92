/- The texts CodecFace CodecUnpack, one behind the other; each one's own comment says what it holds. -/
import Derived.Test.YtcpfkinjglnabaaPackAK
import Derived.Tactics
import Derived.Tactics2
import Derived.Defers
import Derived.Recover
import Derived.Laws.Pointers
/- Contracts of codec.face at uint64: what read answers, or the error that it panics with. Conditions: none. -/
set_option maxRecDepth 100000
namespace Go.Proofs.Ytcpfkinjglnabaa
open Go.RowKit Go.Maps Go.Sort

theorem assert_errno (n : Int) (W : World) : (Instr.typeAssert (.iface 31 (.int .i64 n)) 20 31 true).run Try.prog W = .ok (.tuple #[.int .i64 n, .bool true]) W := by kernel_rfl

theorem catch_idle (p q : Addr) (w : World) :
    CallsD Try.prog 134 #[.pointer (some p), .pointer (some q)] .returning w fun e u' w' => e = .returned (.tuple #[]) ∧ u' = .returning ∧ w' = w := by
  refine callsD_of_wpS Try.func134 rfl fun c₀ cs hu => ?_
  apply wpS_seq
  apply wpS_region
  simp [wpOpsS, go_sem, recoverD, hu, Try.ntmps134, Exit.thenS]
  simp only [Array.replicate_succ, Array.replicate_zero, List.push_toArray, List.append_toArray, List.nil_append, List.cons_append, List.setIfInBounds_toArray, List.set_cons_succ, List.set_cons_zero]
  refine wpS_of_wp ?_
  go_wp2
  cases c₀
  simp_all [bodyPostS, results, Try.results134]

set_option maxHeartbeats 800000 in
theorem catch_errno (b c : Nat) (n : Int) (w : World) (hp : w.cell? ⟨b, 0, none⟩ = some (.slice none 0 0)) (hpf : w.frozen? ⟨b, 0, none⟩ = false) (hq : w.cell? ⟨c, 0, none⟩ = some (.int .i64 0)) (hqf : w.frozen? ⟨c, 0, none⟩ = false) (hne : b ≠ c) :
    CallsD Try.prog 134 #[.pointer (some ⟨b, 0, none⟩), .pointer (some ⟨c, 0, none⟩)] (.panicking [{ v := .iface 31 (.int .i64 n), recovered := false }]) w fun e u' w' =>
      e = .returned (.tuple #[]) ∧ u' = .panicking [{ v := .iface 31 (.int .i64 n), recovered := true }] ∧ w' = ((w.setCell ⟨b, 0, none⟩ (.slice none 0 0)).setCell ⟨c, 0, none⟩ (.int .i64 8)).setCell ⟨c, 0, none⟩ (.int .i64 n) := by
  refine callsD_of_wpS Try.func134 rfl fun c₀ cs hu => ?_
  apply wpS_seq
  apply wpS_region
  simp [wpOpsS, go_sem, recoverD, hu, Try.ntmps134, Exit.thenS]
  simp only [Array.replicate_succ, Array.replicate_zero, List.push_toArray, List.append_toArray, List.nil_append, List.cons_append, List.setIfInBounds_toArray, List.set_cons_succ, List.set_cons_zero]
  refine wpS_of_wp ?_
  have hc := Ne.symm hne
  have hta := assert_errno n
  go_wp2
  cases c₀
  simp_all [bodyPostS, results, Try.results134]

theorem below2r (w : World) (A B : Obj) : Below w.heap.size w ((w.alloc A).alloc B) := ((Below.refl _ _).alloc (Nat.le_refl _) _).alloc (by simp) _

set_option maxHeartbeats 800000 in
theorem face_ok {w : World} {g : Nat} {caps : Array Value} (heg : ∀ args w, (callFunc g args).run Try.prog w = .ok (.enter g args) w) {xs : List Value} {k : Nat}
    (hcall : ∀ W, Below w.heap.size w W → Calls Try.prog g caps W fun e w' => ∃ v, e = .returned v ∧ Hid (w'.ownsRow W.heap.size 116 1 v k xs ∧ Below W.heap.size W w')) :
    Calls Try.prog 121 #[.func (.func g) #[] caps] w fun e w' => ∃ v, e = .returned (.tuple #[v, .int .i64 0]) ∧ Hid (w'.ownsRow w.heap.size 116 1 v k xs ∧ Below w.heap.size w w') := by
  have hmf : ∀ (fn : Fn) (first cap : Array Value) (w : World), (Instr.makeFunc fn first cap).run Try.prog w = .ok (.func fn first cap) w := fun _ _ _ _ => rfl
  have HC := Lib.hid hcall
  clear hcall
  go_enter_defers Try.func121, Try.ntmps121
  go_wp2_with fail
  refine (HC.out _ (below2r _ _ _)).mono ?_
  rintro e w1 ⟨v, rfl, h1⟩
  obtain ⟨va, vc, hv, _⟩ := ownsRow_form h1.out.1
  have hB := h1.out.2
  have a0 : w1.heap[w.heap.size]? = some (.cells #[.slice none 0 0] 118 (0, 0)) :=
    (hB.block _ (by simp; omega)).trans ((Below.heap_alloc _ _ _ (by simp)).trans (alloc1 _ _))
  have a1 : w1.heap[w.heap.size + 1]? = some (.cells #[.int .i64 0] 31 (0, 0)) := by
    have := alloc1 (w.alloc (Obj.cells #[Value.slice none 0 0] 118)) (Obj.cells #[Value.int IntKind.i64 0] 31)
    exact (hB.block _ (by simp)).trans (by simpa using this)
  have c0 : w1.cell? ⟨w.heap.size, 0, none⟩ = some (.slice none 0 0) := by rw [cell_of_row _ _ _ _ _ _ a0]; rfl
  have c1 : w1.cell? ⟨w.heap.size + 1, 0, none⟩ = some (.int .i64 0) := by rw [cell_of_row _ _ _ _ _ _ a1]; rfl
  have f0 := free_of_row a0 0
  have f1 := free_of_row a1 0
  have b0 := heap_set (j := 0) a0 v
  have b1 := heap_set (j := 0) ((Below.heap_setCell w1 ⟨w.heap.size, 0, none⟩ v (w.heap.size + 1) (by simp)).trans a1) (.int .i64 0)
  have b2 := (Below.heap_setCell (w1.setCell ⟨w.heap.size, 0, none⟩ v) ⟨w.heap.size + 1, 0, none⟩ (.int .i64 0) w.heap.size (by simp)).trans b0
  have d0 : ((w1.setCell ⟨w.heap.size, 0, none⟩ v).setCell ⟨w.heap.size + 1, 0, none⟩ (.int .i64 0)).cell? ⟨w.heap.size, 0, none⟩ = some v := by rw [cell_of_row _ _ _ _ _ _ b2]; rfl
  have d1 : ((w1.setCell ⟨w.heap.size, 0, none⟩ v).setCell ⟨w.heap.size + 1, 0, none⟩ (.int .i64 0)).cell? ⟨w.heap.size + 1, 0, none⟩ = some (.int .i64 0) := by rw [cell_of_row _ _ _ _ _ _ b1]; rfl
  have hbel : Below w.heap.size w ((w1.setCell ⟨w.heap.size, 0, none⟩ v).setCell ⟨w.heap.size + 1, 0, none⟩ (.int .i64 0)) :=
    (((below2r w _ _).trans (hB.mono (by simp; omega))).setCell (p := ⟨w.heap.size, 0, none⟩) (Nat.le_refl _) _).setCell (p := ⟨w.heap.size + 1, 0, none⟩) (by simp) _
  have hge := ownsRow_ge h1.out.1
  have hhold : ((w1.setCell ⟨w.heap.size, 0, none⟩ v).setCell ⟨w.heap.size + 1, 0, none⟩ (.int .i64 0)).ownsRow w.heap.size 116 1 v k xs := by
    refine ownsRow_rebase (ownsRow_of_block h1.out.1 fun g hg => ?_) fun g hg => ?_
    · have := hge g hg
      simp at this
      exact (Below.heap_setCell _ _ _ g (by simp; omega)).trans (Below.heap_setCell _ _ _ g (by simp; omega))
    · have := hge g hg
      simp at this
      omega
  have HFIN := Lib.hid (And.intro hhold hbel)
  subst hv
  clear h1 hB a0 a1 b0 b1 b2 hbel hhold hge
  go_wp2_with fail
  refine leaves_cons (f := 134) (args := #[.pointer (some ⟨w.heap.size, 0, none⟩), .pointer (some ⟨w.heap.size + 1, 0, none⟩)]) (by simp) (by simp [go_sem]) ?_
  refine (catch_idle _ _ _).mono ?_
  rintro e u' w'' ⟨rfl, rfl, rfl⟩
  simp [Leaves, settle, results, Try.results121, go_sem, d0, d1]
  exact HFIN

set_option maxHeartbeats 800000 in
theorem face_panic {w : World} {g : Nat} {caps : Array Value} (heg : ∀ args w, (callFunc g args).run Try.prog w = .ok (.enter g args) w) {n : Int}
    (hcall : ∀ W, Below w.heap.size w W → Calls Try.prog g caps W fun e w' => e = .panicked [{ v := .iface 31 (.int .i64 n), recovered := false }] ∧ Below W.heap.size W w') :
    Calls Try.prog 121 #[.func (.func g) #[] caps] w fun e w' => e = .returned (.tuple #[.slice none 0 0, .int .i64 n]) ∧ Below w.heap.size w w' := by
  have hmf : ∀ (fn : Fn) (first cap : Array Value) (w : World), (Instr.makeFunc fn first cap).run Try.prog w = .ok (.func fn first cap) w := fun _ _ _ _ => rfl
  have HC := Lib.hid hcall
  clear hcall
  go_enter_defers Try.func121, Try.ntmps121
  go_wp2_with fail
  refine (HC.out _ (below2r _ _ _)).mono ?_
  rintro e w1 ⟨rfl, hB⟩
  have a0 : w1.heap[w.heap.size]? = some (.cells #[.slice none 0 0] 118 (0, 0)) :=
    (hB.block _ (by simp; omega)).trans ((Below.heap_alloc _ _ _ (by simp)).trans (alloc1 _ _))
  have a1 : w1.heap[w.heap.size + 1]? = some (.cells #[.int .i64 0] 31 (0, 0)) := by
    have := alloc1 (w.alloc (Obj.cells #[Value.slice none 0 0] 118)) (Obj.cells #[Value.int IntKind.i64 0] 31)
    exact (hB.block _ (by simp)).trans (by simpa using this)
  have c0 : w1.cell? ⟨w.heap.size, 0, none⟩ = some (.slice none 0 0) := by rw [cell_of_row _ _ _ _ _ _ a0]; rfl
  have c1 : w1.cell? ⟨w.heap.size + 1, 0, none⟩ = some (.int .i64 0) := by rw [cell_of_row _ _ _ _ _ _ a1]; rfl
  have f0 := free_of_row a0 0
  have f1 := free_of_row a1 0
  go_wp2_with fail
  refine leaves_cons (f := 134) (args := #[.pointer (some ⟨w.heap.size, 0, none⟩), .pointer (some ⟨w.heap.size + 1, 0, none⟩)]) (by simp) (by simp [go_sem]) ?_
  refine (catch_errno _ _ n _ c0 f0 c1 f1 (by omega)).mono ?_
  rintro e u' w'' ⟨rfl, rfl, rfl⟩
  have b0 := heap_set (j := 0) a0 (.slice none 0 0)
  have b1 := heap_set (j := 0) ((Below.heap_setCell w1 ⟨w.heap.size, 0, none⟩ (.slice none 0 0) (w.heap.size + 1) (by simp)).trans a1) (.int .i64 8)
  have b2 := heap_set (j := 0) b1 (.int .i64 n)
  have b3 := (Below.heap_setCell ((w1.setCell ⟨w.heap.size, 0, none⟩ (.slice none 0 0)).setCell ⟨w.heap.size + 1, 0, none⟩ (.int .i64 8)) ⟨w.heap.size + 1, 0, none⟩ (.int .i64 n) w.heap.size (by simp)).trans ((Below.heap_setCell (w1.setCell ⟨w.heap.size, 0, none⟩ (.slice none 0 0)) ⟨w.heap.size + 1, 0, none⟩ (.int .i64 8) w.heap.size (by simp)).trans b0)
  have d0 : (((w1.setCell ⟨w.heap.size, 0, none⟩ (.slice none 0 0)).setCell ⟨w.heap.size + 1, 0, none⟩ (.int .i64 8)).setCell ⟨w.heap.size + 1, 0, none⟩ (.int .i64 n)).cell? ⟨w.heap.size, 0, none⟩ = some (.slice none 0 0) := by rw [cell_of_row _ _ _ _ _ _ b3]; rfl
  have d1 : (((w1.setCell ⟨w.heap.size, 0, none⟩ (.slice none 0 0)).setCell ⟨w.heap.size + 1, 0, none⟩ (.int .i64 8)).setCell ⟨w.heap.size + 1, 0, none⟩ (.int .i64 n)).cell? ⟨w.heap.size + 1, 0, none⟩ = some (.int .i64 n) := by rw [cell_of_row _ _ _ _ _ _ b2]; rfl
  have hbel : Below w.heap.size w (((w1.setCell ⟨w.heap.size, 0, none⟩ (.slice none 0 0)).setCell ⟨w.heap.size + 1, 0, none⟩ (.int .i64 8)).setCell ⟨w.heap.size + 1, 0, none⟩ (.int .i64 n)) :=
    ((((below2r w _ _).trans (hB.mono (by simp; omega))).setCell (p := ⟨w.heap.size, 0, none⟩) (Nat.le_refl _) _).setCell (p := ⟨w.heap.size + 1, 0, none⟩) (by simp) _).setCell (p := ⟨w.heap.size + 1, 0, none⟩) (by simp) _
  have HFIN := Lib.hid hbel
  clear hbel
  simp [Leaves, settle, results, Try.results121, go_sem, d0, d1]
  exact HFIN.out
end Go.Proofs.Ytcpfkinjglnabaa
/- Contracts of codec.Unpack: the numbers, or ErrCorrupt. Conditions: width and count are allowed ones. -/
set_option maxRecDepth 100000
namespace Go.Proofs.Ytcpfkinjglnabaa
open Go.RowKit Go.Maps Go.Sort

theorem inner_ok {w : World} {b c d : Nat} {x y z : Value} (h1 : w.cell? ⟨b, 0, none⟩ = some x) (h2 : w.cell? ⟨c, 0, none⟩ = some y) (h3 : w.cell? ⟨d, 0, none⟩ = some z) {Q : Value → World → Prop}
    (h : Calls Try.prog 128 #[x, y, z] w fun e w' => ∃ v, e = .returned v ∧ Hid (Q v w')) :
    Calls Try.prog 127 #[.pointer (some ⟨b, 0, none⟩), .pointer (some ⟨c, 0, none⟩), .pointer (some ⟨d, 0, none⟩)] w fun e w' => ∃ v, e = .returned v ∧ Hid (Q v w') := by
  have HC := Lib.hid h
  clear h
  go_enter Try.func127, Try.ntmps127
  go_wp2_with fail
  refine HC.out.mono ?_
  rintro e w' ⟨v, rfl, hv⟩
  go_wp2
  simp [bodyPost, results, Try.results127, hv]
theorem inner_panic {w : World} {b c d : Nat} {x y z : Value} (h1 : w.cell? ⟨b, 0, none⟩ = some x) (h2 : w.cell? ⟨c, 0, none⟩ = some y) (h3 : w.cell? ⟨d, 0, none⟩ = some z) {Q : World → Prop} {ch : List PanicEntry}
    (h : Calls Try.prog 128 #[x, y, z] w fun e w' => e = .panicked ch ∧ Q w') :
    Calls Try.prog 127 #[.pointer (some ⟨b, 0, none⟩), .pointer (some ⟨c, 0, none⟩), .pointer (some ⟨d, 0, none⟩)] w fun e w' => e = .panicked ch ∧ Q w' := by
  have HC := Lib.hid h
  clear h
  go_enter Try.func127, Try.ntmps127
  go_wp2_with fail
  refine HC.out.mono ?_
  rintro e w' ⟨rfl, hv⟩
  go_wp2
  simp [bodyPost, hv]

theorem enter_inner (args : Array Value) (w : World) : (callFunc 127 args).run Try.prog w = .ok (.enter 127 args) w := by kernel_rfl

theorem boxes {w W : World} {x y z : Value} {s t u : TypeId} (hb : Below (w.heap.size + 3) (((w.alloc (.cells #[x] s)).alloc (.cells #[y] t)).alloc (.cells #[z] u)) W) :
    W.cell? ⟨w.heap.size, 0, none⟩ = some x ∧ W.cell? ⟨w.heap.size + 1, 0, none⟩ = some y ∧ W.cell? ⟨w.heap.size + 1 + 1, 0, none⟩ = some z ∧ Below w.heap.size w W := by
  obtain ⟨a1, a2, a3⟩ := alloc3r w (.cells #[x] s) (.cells #[y] t) (.cells #[z] u)
  have b1 := (hb.block _ (by omega)).trans a1
  have b2 := (hb.block _ (by omega)).trans a2
  have b3 := (hb.block _ (by omega)).trans a3
  exact ⟨by rw [cell_of_row _ _ _ _ _ _ b1]; rfl, by rw [cell_of_row _ _ _ _ _ _ b2]; rfl, by rw [cell_of_row _ _ _ _ _ _ b3]; rfl,
    ((((Below.refl _ _).alloc (Nat.le_refl _) _).alloc (by simp) _).alloc (by simp; omega) _).trans (hb.mono (by omega))⟩

set_option maxHeartbeats 800000 in
theorem Unpack_val {w : World} {a : Option Addr} {bl cap : Nat} (wd n : Nat) (hw : wd ≤ 64) (hn : n ≤ 100000) {k : Nat} {xs : List Value}
    (h : ∀ W, Below w.heap.size w W → Calls Try.prog 128 #[.int .i64 (wd : Int), .int .i64 (n : Int), .slice a bl cap] W fun e w' => ∃ v, e = .returned v ∧ Hid (w'.ownsRow W.heap.size 116 1 v k xs ∧ Below W.heap.size W w')) :
    Calls Try.prog 106 #[.int .i64 (wd : Int), .int .i64 (n : Int), .slice a bl cap] w fun e w' => ∃ v, e = .returned (.tuple #[v, .int .i64 0]) ∧ Hid (w'.ownsRow w.heap.size 116 1 v k xs ∧ Below w.heap.size w w') := by
  have hmf : ∀ (fn : Fn) (first cap : Array Value) (w : World), (Instr.makeFunc fn first cap).run Try.prog w = .ok (.func fn first cap) w := fun _ _ _ _ => rfl
  have HF : Hid (Calls Try.prog 121 #[.func (.func 127) #[] #[.pointer (some ⟨w.heap.size, 0, none⟩), .pointer (some ⟨w.heap.size + 1, 0, none⟩), .pointer (some ⟨w.heap.size + 1 + 1, 0, none⟩)]]
      (((w.alloc (.cells #[.int .i64 (wd : Int)] 3)).alloc (.cells #[.int .i64 (n : Int)] 3)).alloc (.cells #[.slice a bl cap] 68))
      fun e w' => ∃ v, e = .returned (.tuple #[v, .int .i64 0]) ∧ Hid (w'.ownsRow w.heap.size 116 1 v k xs ∧ Below w.heap.size w w')) := by
    refine Lib.hid ((face_ok (k := k) (xs := xs) enter_inner fun W hW => ?_).mono ?_)
    · obtain ⟨h1, h2, h3, h4⟩ := boxes (by simpa using hW)
      exact inner_ok h1 h2 h3 (h W h4)
    · rintro e w' ⟨v, rfl, hv⟩
      refine ⟨v, rfl, Lib.hid ⟨ownsRow_rebase hv.out.1 fun g hg => ?_, ?_⟩⟩
      · have := ownsRow_ge hv.out.1 g hg
        simp at this
        omega
      · exact (boxes (by simpa using hv.out.2)).2.2.2
  clear h
  go_enter Try.func106, Try.ntmps106
  have t1 : decide ((wd : Int) < 0) = false := by simp
  have t2 : decide ((64 : Int) < (wd : Int)) = false := by simp; omega
  have t3 : decide ((n : Int) < 0) = false := by simp
  have t4 : decide ((100000 : Int) < (n : Int)) = false := by simp; omega
  go_wp2_with fail
  refine HF.out.mono ?_
  rintro e w' ⟨v, rfl, hv⟩
  go_wp2_with fail
  simp [bodyPost, results, Try.results106, go_sem]
  exact hv

set_option maxHeartbeats 800000 in
theorem Unpack_panic {w : World} {a : Option Addr} {bl cap : Nat} (wd n : Nat) (hw : wd ≤ 64) (hn : n ≤ 100000)
    (h : ∀ W, Below w.heap.size w W → Calls Try.prog 128 #[.int .i64 (wd : Int), .int .i64 (n : Int), .slice a bl cap] W fun e w' => e = .panicked corrupt ∧ Below W.heap.size W w') :
    Calls Try.prog 106 #[.int .i64 (wd : Int), .int .i64 (n : Int), .slice a bl cap] w fun e w' => e = .returned (.tuple #[.slice none 0 0, .int .i64 8]) ∧ Below w.heap.size w w' := by
  have hmf : ∀ (fn : Fn) (first cap : Array Value) (w : World), (Instr.makeFunc fn first cap).run Try.prog w = .ok (.func fn first cap) w := fun _ _ _ _ => rfl
  have HF : Hid (Calls Try.prog 121 #[.func (.func 127) #[] #[.pointer (some ⟨w.heap.size, 0, none⟩), .pointer (some ⟨w.heap.size + 1, 0, none⟩), .pointer (some ⟨w.heap.size + 1 + 1, 0, none⟩)]]
      (((w.alloc (.cells #[.int .i64 (wd : Int)] 3)).alloc (.cells #[.int .i64 (n : Int)] 3)).alloc (.cells #[.slice a bl cap] 68))
      fun e w' => e = .returned (.tuple #[.slice none 0 0, .int .i64 8]) ∧ Below w.heap.size w w') := by
    refine Lib.hid ((face_panic (n := 8) enter_inner fun W hW => ?_).mono ?_)
    · obtain ⟨h1, h2, h3, h4⟩ := boxes (by simpa using hW)
      exact inner_panic h1 h2 h3 (h W h4)
    · rintro e w' ⟨rfl, hv⟩
      exact ⟨rfl, (boxes (by simpa using hv)).2.2.2⟩
  clear h
  go_enter Try.func106, Try.ntmps106
  have t1 : decide ((wd : Int) < 0) = false := by simp
  have t2 : decide ((64 : Int) < (wd : Int)) = false := by simp; omega
  have t3 : decide ((n : Int) < 0) = false := by simp
  have t4 : decide ((100000 : Int) < (n : Int)) = false := by simp; omega
  go_wp2_with fail
  refine HF.out.mono ?_
  rintro e w' ⟨rfl, hv⟩
  go_wp2_with fail
  simp [bodyPost, results, Try.results106, go_sem]
  exact hv

theorem Unpack_ok {w : World} {a : Option Addr} {cap : Nat} {bs : List UInt8} (h : Holds w (.slice a bs.length cap) (u8s bs)) (wd n : Nat) (hw : wd ≤ 64) (hn : n ≤ 100000) (hb : bs.length = (wd * n + 7) / 8) (hgood : numB bs < 2 ^ (wd * n)) :
    Calls Try.prog 106 #[.int .i64 (wd : Int), .int .i64 (n : Int), .slice a bs.length cap] w fun e w' => ∃ v, e = .returned (.tuple #[v, .int .i64 0]) ∧ Hid (w'.ownsRow w.heap.size 116 1 v n (u64s (unpackL wd n (numB bs))) ∧ Below w.heap.size w w') :=
  Unpack_val wd n hw hn fun _ hW => read_ok (h.below hW) wd n hw hn hb hgood
theorem Unpack_size {w : World} {a : Option Addr} {bl cap : Nat} (wd n : Nat) (hw : wd ≤ 64) (hn : n ≤ 100000) (hne : bl ≠ (wd * n + 7) / 8) :
    Calls Try.prog 106 #[.int .i64 (wd : Int), .int .i64 (n : Int), .slice a bl cap] w fun e w' => e = .returned (.tuple #[.slice none 0 0, .int .i64 8]) ∧ Below w.heap.size w w' :=
  Unpack_panic wd n hw hn fun _ _ => read_size wd n hw hn hne
theorem Unpack_trail {w : World} {a : Option Addr} {cap : Nat} {bs : List UInt8} (h : Holds w (.slice a bs.length cap) (u8s bs)) (wd n : Nat) (hw : wd ≤ 64) (hn : n ≤ 100000) (hb : bs.length = (wd * n + 7) / 8) (hbad : ¬ numB bs < 2 ^ (wd * n)) :
    Calls Try.prog 106 #[.int .i64 (wd : Int), .int .i64 (n : Int), .slice a bs.length cap] w fun e w' => e = .returned (.tuple #[.slice none 0 0, .int .i64 8]) ∧ Below w.heap.size w w' :=
  Unpack_panic wd n hw hn fun _ hW => read_trail (h.below hW) wd n hw hn hb hbad
end Go.Proofs.Ytcpfkinjglnabaa
