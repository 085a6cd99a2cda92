/- The texts RangeOps CodecRead CodecFaceB Unframe TellsPlain FrameAny, one behind the other; each one's own comment says what it holds. -/
import Derived.Test.YtehfoaicohnpfaaGreatDoorRange
import Derived.StillTailTactics
import Derived.BigRegion
import Derived.Test.YtehfoaicohnpfaaGreatDoorUnpackPlain
import Derived.Test.YtehfoaicohnpfaaGreatDoorCodecPut
import Derived.Sort.QuietTacIn
import Derived.Sort.BigQuietIn
import Derived.Tactics
import Derived.Tactics2
import Derived.Defers
import Derived.Recover
import Derived.Laws.Pointers
import Derived.Test.YtehfoaicohnpfaaGreatDoorReadFrame
/- A region of a round's body, walked as outside of rounds: what the plain walk of any order says holds in a round. Conditions: the region defers nothing. -/
set_option maxRecDepth 100000
namespace Go.Proofs.YtehfoaicohnpfaaGreatDoor
open Go.RowKit

theorem heap_grown {X Y : World} {row : Option Nat} (hg : X.grownBy Y row) {S k : Nat} {o : Obj} (hk : X.heap[k]? = some o) (hS : k < S) (hr : ∀ r, row = some r → S ≤ r) : Y.heap[k]? = some o :=
  (hg.block k (Array.getElem?_eq_some_iff.1 hk).1 (fun e => by have := hr k e.symm; omega)).trans hk

theorem heap_other {X : World} {g j k : Nat} {v : Value} {o : Obj} (h : X.heap[k]? = some o) (hne : k ≠ g) : (X.setCell ⟨g, j, none⟩ v).heap[k]? = some o :=
  (Below.heap_setCell X ⟨g, j, none⟩ v k hne).trans h

/-- the wide fence, at a frame of this round (or of none) -/
abbrev wideAt (ro : Option Nat) : Fence := { Fence.wide with round := ro }

theorem uponIn_of_upon {P : Program} {ro : Option Nat} {o : Oper} {a : Act} {K K' : Act → World → Prop} (hK : ∀ a w, K a w → K' a w) {Q : Exit → Act → World → Prop} {r : Result Go.Next} (h : o.upon P a K Q r) : o.uponIn (wideAt ro) 0 P a K' Q r := by
  unfold Oper.upon at h
  split at h
  · exact hK _ _ h
  · exact hK _ _ h
  · exact hK _ _ h
  · refine ⟨(fun h => nomatch h), (callsIn_wide.2 h).mono ?_⟩
    intro e w' hr
    cases e with
    | returned v => exact hK _ _ hr
    | panicked ch => exact hr
    | outgrown => exact hr
  · refine ⟨(fun h => nomatch h), fun c cs _ => ?_⟩
    obtain ⟨v, w', r, s⟩ := h c cs
    exact ⟨v, w', hK _ _ r, stepsIn_wide.2 s⟩
  · exact h
  · exact h.elim

theorem opsIn_of_ops {P : Program} {ro : Option Nat} {ops : Array Oper} (hd : ro = none ∨ ∀ (i : Nat) (o : Oper) c, ops[i]? = some o → o.op ≠ .defer c) {Q : Exit → Act → World → Prop} (hno : ¬ LetsOut Q) :
    ∀ (L : List Nat) (a : Act) (w : World), wpOps P ops Q L a w → wpOpsIn (wideAt ro) 0 P ops Q L a w := by
  intro L
  induction L with
  | nil => exact fun a w h => h
  | cons i rest ih =>
    intro a w h
    simp only [wpOps] at h
    simp only [wpOpsIn]
    cases ho : ops[i]? with
    | none => simp only [ho] at h ⊢; exact ih _ _ h
    | some o =>
      simp only [ho] at h ⊢
      split
      · rename_i hw
        simp only [hw, if_true] at h
        rcases h with h | h
        · refine ⟨fun _ _ => trivial, ?_⟩
          have e : o.semAt ro a.eval = execOp a.eval o := by
            rcases hd with rfl | hd
            · rfl
            · exact Oper.semAt_eq _ _ _ (fun c => hd i o c ho)
          show o.uponIn (wideAt ro) 0 P a _ Q ((o.semAt ro a.eval).run P w)
          rw [e]
          exact uponIn_of_upon ih h
        · exact absurd h.2 hno
      · rename_i hw
        simp only [hw] at h
        exact ⟨fun _ _ => trivial, ih _ _ h⟩

theorem round_region_any {P : Program} {l0 id : Nat} {ops : Array Oper} {Q : Exit → Act → World → Prop} {a : Act} {w : World} (hm : P.follows .mixedOrders = true) (hd : ops.all (fun o => match o.op with | .defer _ => false | _ => true) = true) (hno : ¬ LetsOut Q)
    (h : wpAny P .any ops Q ops.size (Array.replicate ops.size false) a { w with drawn := w.drawn + 1 }) : (Code.region id ops true).wpIn (Fence.wide.inRound l0) 0 P Q a w :=
  wpIn_region_draw fun t => by
    simp only [Region.schedule, hm, Bool.true_or, if_true]
    refine opsIn_of_ops (ro := some l0) (.inr (fun i o c ho e => ?_)) hno _ _ _ (wpAny_sound ops.size t _ a _ h)
    obtain ⟨hi, rfl⟩ := Array.getElem?_eq_some_iff.1 ho
    have := Array.all_eq_true.1 hd i hi
    rw [e] at this
    cases this

theorem still_tail_any {P : Program} {Q : Exit → Act → World → Prop} {a : Act} {w : World} {l : List Oper} (n : Nat) (hB : Region.lexTailB .any l.toArray n = true)
    (h : wpStill P l.toArray { w with drawn := w.drawn + 1 } (fun a' => wpList P l.toArray Q (l.drop n) a' { w with drawn := w.drawn + 1 }) (l.take n) a) : wpAny P .any l.toArray Q l.toArray.size (Array.replicate l.toArray.size false) a { w with drawn := w.drawn + 1 } := by
  simp only [Region.lexTailB, Bool.and_eq_true, decide_eq_true_eq] at hB
  obtain ⟨⟨⟨⟨hsel, hn⟩, hs⟩, hc⟩, hlex⟩ := hB
  have hn' : n < l.length := by simpa using hn
  have htl : (l.take n).length = n := by simp; omega
  have hdl : (l.drop n).length = l.toArray.size - n := by simp
  have inv0 : HeadInv .any l.toArray n (Array.replicate l.toArray.size false) :=
    ⟨by simp, fun j oj _ hl => (by rw [getD_replicate_false] at hl; cases hl), fun t _ ht => getD_in (by simpa using ht) (getD_replicate_false _ _)⟩
  have H := wpAnyL_lex (md := .any) (g := l.toArray.size - n) hsel hs hc hn (l.take n) 0 _ a (fun j hj => by
    have hj' : j < n := by rw [htl] at hj; exact hj
    simp [hj']) (by simpa using htl) inv0 (by rw [htl]; exact hlex) h
  have := wpAny_of_head (Q' := Q) (g := l.toArray.size - n) (fun listed a' hL => by
    have := wpAny_of_seq (md := .any) (Q' := Q) (l.drop n) n listed a' { w with drawn := w.drawn + 1 } (fun j => by simp [List.getElem?_drop]) (by rw [hdl]; exact hL.1) hL.2
    rwa [hdl] at this) _ _ _ H
  rw [htl, show n + (l.toArray.size - n) = l.toArray.size by omega] at this
  exact this

/-- reads ahead of one store, in a round -/
theorem round_still_tail {P : Program} {l0 id : Nat} {Q : Exit → Act → World → Prop} {a : Act} {w : World} {l : List Oper} (n : Nat) (hm : P.follows .mixedOrders = true) (hd : l.toArray.all (fun o => match o.op with | .defer _ => false | _ => true) = true) (hno : ¬ LetsOut Q) (hB : Region.lexTailB .any l.toArray n = true)
    (h : wpStill P l.toArray { w with drawn := w.drawn + 1 } (fun a' => wpList P l.toArray Q (l.drop n) a' { w with drawn := w.drawn + 1 }) (l.take n) a) : (Code.region id l.toArray true).wpIn (Fence.wide.inRound l0) 0 P Q a w :=
  round_region_any hm hd hno (still_tail_any n hB h)
/-- reads ahead of one store, in a frame outside of rounds, inside the wide fence -/
theorem wide_still_tail {P : Program} {id : Nat} {Q : Exit → Act → World → Prop} {a : Act} {w : World} {l : List Oper} (n : Nat) (hm : P.follows .mixedOrders = true) (hno : ¬ LetsOut Q) (hB : Region.lexTailB .any l.toArray n = true)
    (h : wpStill P l.toArray { w with drawn := w.drawn + 1 } (fun a' => wpList P l.toArray Q (l.drop n) a' { w with drawn := w.drawn + 1 }) (l.take n) a) : (Code.region id l.toArray true).wpIn Fence.wide 0 P Q a w :=
  wpIn_region_draw fun t => by
    simp only [Region.schedule, hm, Bool.true_or, if_true]
    exact opsIn_of_ops (ro := none) (.inl rfl) hno _ _ _ (wpAny_sound l.toArray.size t _ a _ (still_tail_any n hB h))
end Go.Proofs.YtehfoaicohnpfaaGreatDoor
/- Contract of codec.readPacked: numbers of so many bits, read. Conditions: small lists. -/
set_option maxRecDepth 100000
namespace Go.Proofs.YtehfoaicohnpfaaGreatDoor
open Go.RowKit Go.Maps Go.Sort
attribute [local go_sem] Oper.semAt_some

theorem below1r (w : World) (o : Obj) : Below w.heap.size w (w.alloc o) := (Below.refl _ _).alloc (Nat.le_refl _) _

/-- how many bits are read ahead of step k -/
def stepD (f : Nat) : Nat → Nat
  | 0 => 0
  | k + 1 => stepD f k + (8 - (f + stepD f k) % 8)
theorem stepD_get (f w : Nat) : ∀ k, k < (stepsL f w 0).length → (stepsL f w 0)[k]? = some (stepD f k, f + stepD f k) ∧ stepD f k < w := by
  intro k
  induction k with
  | zero =>
    intro h
    by_cases hw : 0 < w
    · rw [steps_in hw]; exact ⟨rfl, hw⟩
    · rw [steps_out hw] at h; cases h
  | succ k ih =>
    intro h
    obtain ⟨e, _⟩ := ih (by omega)
    obtain ⟨_, _, e3⟩ := steps_get f w k 0 _ _ e
    rw [e3]
    split
    · rename_i hlt; exact ⟨rfl, hlt⟩
    · rename_i hge
      rw [if_neg hge] at e3
      rw [List.getElem?_eq_none_iff] at e3
      omega
theorem stepD_end (f w : Nat) : w ≤ stepD f (stepsL f w 0).length := by
  cases hl : (stepsL f w 0).length with
  | zero =>
    by_cases hw : 0 < w
    · rw [steps_in hw] at hl; cases hl
    · show w ≤ 0; omega
  | succ m =>
    obtain ⟨e, _⟩ := stepD_get f w m (by omega)
    obtain ⟨_, _, e3⟩ := steps_get f w m 0 _ _ e
    have hn : (stepsL f w 0)[m + 1]? = none := by rw [List.getElem?_eq_none_iff]; omega
    rw [hn] at e3
    split at e3
    · cases e3
    · rename_i h; show w ≤ stepD f m + (8 - (f + stepD f m) % 8); omega
/-- ErrCorrupt, as a panic -/
def corrupt : List PanicEntry := [{ v := .iface 49 (.int .i64 8), recovered := false }]

end Go.Proofs.YtehfoaicohnpfaaGreatDoor
/- Contracts of codec.face at byte: what read answers, or the error that it panics with. Conditions: none. -/
set_option maxRecDepth 100000
namespace Go.Proofs.YtehfoaicohnpfaaGreatDoor
open Go.RowKit Go.Maps Go.Sort

theorem assert_errnoB (n : Int) (W : World) : (Instr.typeAssert (.iface 49 (.int .i64 n)) 20 49 true).run Tryz.prog W = .ok (.tuple #[.int .i64 n, .bool true]) W := by kernel_rfl

theorem catch_idleB (p q : Addr) (w : World) :
    CallsD Tryz.prog 52 #[.pointer (some p), .pointer (some q)] .returning w fun e u' w' => e = .returned (.tuple #[]) ∧ u' = .returning ∧ w' = w := by
  refine callsD_of_wpS Tryz.func52 rfl fun c₀ cs hu => ?_
  apply wpS_seq
  apply wpS_region
  simp [wpOpsS, go_sem, recoverD, hu, Tryz.ntmps52, Exit.thenS]
  simp only [Array.replicate_succ, Array.replicate_zero, List.push_toArray, List.append_toArray, List.nil_append, List.cons_append, List.setIfInBounds_toArray, List.set_cons_succ, List.set_cons_zero]
  refine wpS_of_wp ?_
  go_wp2
  cases c₀
  simp_all [bodyPostS, results, Tryz.results52]

set_option maxHeartbeats 800000 in
theorem catch_errnoB (b c : Nat) (n : Int) (w : World) (hp : w.cell? ⟨b, 0, none⟩ = some (.slice none 0 0)) (hpf : w.frozen? ⟨b, 0, none⟩ = false) (hq : w.cell? ⟨c, 0, none⟩ = some (.int .i64 0)) (hqf : w.frozen? ⟨c, 0, none⟩ = false) (hne : b ≠ c) :
    CallsD Tryz.prog 52 #[.pointer (some ⟨b, 0, none⟩), .pointer (some ⟨c, 0, none⟩)] (.panicking [{ v := .iface 49 (.int .i64 n), recovered := false }]) w fun e u' w' =>
      e = .returned (.tuple #[]) ∧ u' = .panicking [{ v := .iface 49 (.int .i64 n), recovered := true }] ∧ w' = ((w.setCell ⟨b, 0, none⟩ (.slice none 0 0)).setCell ⟨c, 0, none⟩ (.int .i64 8)).setCell ⟨c, 0, none⟩ (.int .i64 n) := by
  refine callsD_of_wpS Tryz.func52 rfl fun c₀ cs hu => ?_
  apply wpS_seq
  apply wpS_region
  simp [wpOpsS, go_sem, recoverD, hu, Tryz.ntmps52, Exit.thenS]
  simp only [Array.replicate_succ, Array.replicate_zero, List.push_toArray, List.append_toArray, List.nil_append, List.cons_append, List.setIfInBounds_toArray, List.set_cons_succ, List.set_cons_zero]
  refine wpS_of_wp ?_
  have hc := Ne.symm hne
  have hta := assert_errnoB n
  go_wp2
  cases c₀
  simp_all [bodyPostS, results, Tryz.results52]

theorem below2rB (w : World) (A B : Obj) : Below w.heap.size w ((w.alloc A).alloc B) := ((Below.refl _ _).alloc (Nat.le_refl _) _).alloc (by simp) _

set_option maxHeartbeats 800000 in
theorem faceB_ok {w : World} {g : Nat} {caps : Array Value} (heg : ∀ args w, (callFunc g args).run Tryz.prog w = .ok (.enter g args) w) {xs : List Value} {k : Nat}
    (hcall : ∀ W, Below w.heap.size w W → Calls Tryz.prog g caps W fun e w' => ∃ v, e = .returned v ∧ Hid (w'.ownsRow W.heap.size 5 1 v k xs ∧ Below W.heap.size W w')) :
    Calls Tryz.prog 39 #[.func (.func g) #[] caps] w fun e w' => ∃ v, e = .returned (.tuple #[v, .int .i64 0]) ∧ Hid (w'.ownsRow w.heap.size 5 1 v k xs ∧ Below w.heap.size w w') := by
  have hmf : ∀ (fn : Fn) (first cap : Array Value) (w : World), (Instr.makeFunc fn first cap).run Tryz.prog w = .ok (.func fn first cap) w := fun _ _ _ _ => rfl
  have HC := Lib.hid hcall
  clear hcall
  go_enter_defers Tryz.func39, Tryz.ntmps39
  go_wp2_with fail
  refine (HC.out _ (below2rB _ _ _)).mono ?_
  rintro e w1 ⟨v, rfl, h1⟩
  obtain ⟨va, vc, hv, _⟩ := ownsRow_form h1.out.1
  have hB := h1.out.2
  have a0 : w1.heap[w.heap.size]? = some (.cells #[.slice none 0 0] 22 (0, 0)) :=
    (hB.block _ (by simp; omega)).trans ((Below.heap_alloc _ _ _ (by simp)).trans (alloc1 _ _))
  have a1 : w1.heap[w.heap.size + 1]? = some (.cells #[.int .i64 0] 49 (0, 0)) := by
    have := alloc1 (w.alloc (Obj.cells #[Value.slice none 0 0] 22)) (Obj.cells #[Value.int IntKind.i64 0] 49)
    exact (hB.block _ (by simp)).trans (by simpa using this)
  have c0 : w1.cell? ⟨w.heap.size, 0, none⟩ = some (.slice none 0 0) := by rw [cell_of_row _ _ _ _ _ _ a0]; rfl
  have c1 : w1.cell? ⟨w.heap.size + 1, 0, none⟩ = some (.int .i64 0) := by rw [cell_of_row _ _ _ _ _ _ a1]; rfl
  have f0 := free_of_row a0 0
  have f1 := free_of_row a1 0
  have b0 := heap_set (j := 0) a0 v
  have b1 := heap_set (j := 0) ((Below.heap_setCell w1 ⟨w.heap.size, 0, none⟩ v (w.heap.size + 1) (by simp)).trans a1) (.int .i64 0)
  have b2 := (Below.heap_setCell (w1.setCell ⟨w.heap.size, 0, none⟩ v) ⟨w.heap.size + 1, 0, none⟩ (.int .i64 0) w.heap.size (by simp)).trans b0
  have d0 : ((w1.setCell ⟨w.heap.size, 0, none⟩ v).setCell ⟨w.heap.size + 1, 0, none⟩ (.int .i64 0)).cell? ⟨w.heap.size, 0, none⟩ = some v := by rw [cell_of_row _ _ _ _ _ _ b2]; rfl
  have d1 : ((w1.setCell ⟨w.heap.size, 0, none⟩ v).setCell ⟨w.heap.size + 1, 0, none⟩ (.int .i64 0)).cell? ⟨w.heap.size + 1, 0, none⟩ = some (.int .i64 0) := by rw [cell_of_row _ _ _ _ _ _ b1]; rfl
  have hbel : Below w.heap.size w ((w1.setCell ⟨w.heap.size, 0, none⟩ v).setCell ⟨w.heap.size + 1, 0, none⟩ (.int .i64 0)) :=
    (((below2rB w _ _).trans (hB.mono (by simp; omega))).setCell (p := ⟨w.heap.size, 0, none⟩) (Nat.le_refl _) _).setCell (p := ⟨w.heap.size + 1, 0, none⟩) (by simp) _
  have hge := ownsRow_ge h1.out.1
  have hhold : ((w1.setCell ⟨w.heap.size, 0, none⟩ v).setCell ⟨w.heap.size + 1, 0, none⟩ (.int .i64 0)).ownsRow w.heap.size 5 1 v k xs := by
    refine ownsRow_rebase (ownsRow_of_block h1.out.1 fun g hg => ?_) fun g hg => ?_
    · have := hge g hg
      simp at this
      exact (Below.heap_setCell _ _ _ g (by simp; omega)).trans (Below.heap_setCell _ _ _ g (by simp; omega))
    · have := hge g hg
      simp at this
      omega
  have HFIN := Lib.hid (And.intro hhold hbel)
  subst hv
  clear h1 hB a0 a1 b0 b1 b2 hbel hhold hge
  go_wp2_with fail
  refine leaves_cons (f := 52) (args := #[.pointer (some ⟨w.heap.size, 0, none⟩), .pointer (some ⟨w.heap.size + 1, 0, none⟩)]) (by simp) (by simp [go_sem]) ?_
  refine (catch_idleB _ _ _).mono ?_
  rintro e u' w'' ⟨rfl, rfl, rfl⟩
  simp [Leaves, settle, results, Tryz.results39, go_sem, d0, d1]
  exact HFIN

set_option maxHeartbeats 800000 in
theorem faceB_panic {w : World} {g : Nat} {caps : Array Value} (heg : ∀ args w, (callFunc g args).run Tryz.prog w = .ok (.enter g args) w) {n : Int}
    (hcall : ∀ W, Below w.heap.size w W → Calls Tryz.prog g caps W fun e w' => e = .panicked [{ v := .iface 49 (.int .i64 n), recovered := false }] ∧ Below W.heap.size W w') :
    Calls Tryz.prog 39 #[.func (.func g) #[] caps] w fun e w' => e = .returned (.tuple #[.slice none 0 0, .int .i64 n]) ∧ Below w.heap.size w w' := by
  have hmf : ∀ (fn : Fn) (first cap : Array Value) (w : World), (Instr.makeFunc fn first cap).run Tryz.prog w = .ok (.func fn first cap) w := fun _ _ _ _ => rfl
  have HC := Lib.hid hcall
  clear hcall
  go_enter_defers Tryz.func39, Tryz.ntmps39
  go_wp2_with fail
  refine (HC.out _ (below2rB _ _ _)).mono ?_
  rintro e w1 ⟨rfl, hB⟩
  have a0 : w1.heap[w.heap.size]? = some (.cells #[.slice none 0 0] 22 (0, 0)) :=
    (hB.block _ (by simp; omega)).trans ((Below.heap_alloc _ _ _ (by simp)).trans (alloc1 _ _))
  have a1 : w1.heap[w.heap.size + 1]? = some (.cells #[.int .i64 0] 49 (0, 0)) := by
    have := alloc1 (w.alloc (Obj.cells #[Value.slice none 0 0] 22)) (Obj.cells #[Value.int IntKind.i64 0] 49)
    exact (hB.block _ (by simp)).trans (by simpa using this)
  have c0 : w1.cell? ⟨w.heap.size, 0, none⟩ = some (.slice none 0 0) := by rw [cell_of_row _ _ _ _ _ _ a0]; rfl
  have c1 : w1.cell? ⟨w.heap.size + 1, 0, none⟩ = some (.int .i64 0) := by rw [cell_of_row _ _ _ _ _ _ a1]; rfl
  have f0 := free_of_row a0 0
  have f1 := free_of_row a1 0
  go_wp2_with fail
  refine leaves_cons (f := 52) (args := #[.pointer (some ⟨w.heap.size, 0, none⟩), .pointer (some ⟨w.heap.size + 1, 0, none⟩)]) (by simp) (by simp [go_sem]) ?_
  refine (catch_errnoB _ _ n _ c0 f0 c1 f1 (by omega)).mono ?_
  rintro e u' w'' ⟨rfl, rfl, rfl⟩
  have b0 := heap_set (j := 0) a0 (.slice none 0 0)
  have b1 := heap_set (j := 0) ((Below.heap_setCell w1 ⟨w.heap.size, 0, none⟩ (.slice none 0 0) (w.heap.size + 1) (by simp)).trans a1) (.int .i64 8)
  have b2 := heap_set (j := 0) b1 (.int .i64 n)
  have b3 := (Below.heap_setCell ((w1.setCell ⟨w.heap.size, 0, none⟩ (.slice none 0 0)).setCell ⟨w.heap.size + 1, 0, none⟩ (.int .i64 8)) ⟨w.heap.size + 1, 0, none⟩ (.int .i64 n) w.heap.size (by simp)).trans ((Below.heap_setCell (w1.setCell ⟨w.heap.size, 0, none⟩ (.slice none 0 0)) ⟨w.heap.size + 1, 0, none⟩ (.int .i64 8) w.heap.size (by simp)).trans b0)
  have d0 : (((w1.setCell ⟨w.heap.size, 0, none⟩ (.slice none 0 0)).setCell ⟨w.heap.size + 1, 0, none⟩ (.int .i64 8)).setCell ⟨w.heap.size + 1, 0, none⟩ (.int .i64 n)).cell? ⟨w.heap.size, 0, none⟩ = some (.slice none 0 0) := by rw [cell_of_row _ _ _ _ _ _ b3]; rfl
  have d1 : (((w1.setCell ⟨w.heap.size, 0, none⟩ (.slice none 0 0)).setCell ⟨w.heap.size + 1, 0, none⟩ (.int .i64 8)).setCell ⟨w.heap.size + 1, 0, none⟩ (.int .i64 n)).cell? ⟨w.heap.size + 1, 0, none⟩ = some (.int .i64 n) := by rw [cell_of_row _ _ _ _ _ _ b2]; rfl
  have hbel : Below w.heap.size w (((w1.setCell ⟨w.heap.size, 0, none⟩ (.slice none 0 0)).setCell ⟨w.heap.size + 1, 0, none⟩ (.int .i64 8)).setCell ⟨w.heap.size + 1, 0, none⟩ (.int .i64 n)) :=
    ((((below2rB w _ _).trans (hB.mono (by simp; omega))).setCell (p := ⟨w.heap.size, 0, none⟩) (Nat.le_refl _) _).setCell (p := ⟨w.heap.size + 1, 0, none⟩) (by simp) _).setCell (p := ⟨w.heap.size + 1, 0, none⟩) (by simp) _
  have HFIN := Lib.hid hbel
  clear hbel
  simp [Leaves, settle, results, Tryz.results39, go_sem, d0, d1]
  exact HFIN.out
end Go.Proofs.YtehfoaicohnpfaaGreatDoor
/- Contracts of codec.Unframe: the content of the frame that bytes begin with, or the error. Conditions: at most 1000000 bytes. -/
set_option maxRecDepth 100000
namespace Go.Proofs.YtehfoaicohnpfaaGreatDoor
open Go.RowKit Go.Maps Go.Sort

theorem innerB_ok {w : World} {b : Nat} {x : Value} (h1 : w.cell? ⟨b, 0, none⟩ = some x) {Q : Value → World → Prop}
    (h : Calls Tryz.prog 41 #[x] w fun e w' => ∃ v, e = .returned v ∧ Hid (Q v w')) :
    Calls Tryz.prog 40 #[.pointer (some ⟨b, 0, none⟩)] w fun e w' => ∃ v, e = .returned v ∧ Hid (Q v w') := by
  have HC := Lib.hid h
  clear h
  go_enter Tryz.func40, Tryz.ntmps40
  go_wp2_with fail
  refine HC.out.mono ?_
  rintro e w' ⟨v, rfl, hv⟩
  go_wp2
  simp [bodyPost, results, Tryz.results40, hv]
theorem innerB_panic {w : World} {b : Nat} {x : Value} (h1 : w.cell? ⟨b, 0, none⟩ = some x) {Q : World → Prop} {ch : List PanicEntry}
    (h : Calls Tryz.prog 41 #[x] w fun e w' => e = .panicked ch ∧ Q w') :
    Calls Tryz.prog 40 #[.pointer (some ⟨b, 0, none⟩)] w fun e w' => e = .panicked ch ∧ Q w' := by
  have HC := Lib.hid h
  clear h
  go_enter Tryz.func40, Tryz.ntmps40
  go_wp2_with fail
  refine HC.out.mono ?_
  rintro e w' ⟨rfl, hv⟩
  go_wp2
  simp [bodyPost, hv]
theorem enter_innerB (args : Array Value) (w : World) : (callFunc 40 args).run Tryz.prog w = .ok (.enter 40 args) w := by kernel_rfl

theorem box1 {w W : World} {x : Value} {t : TypeId} (hb : Below (w.heap.size + 1) (w.alloc (.cells #[x] t)) W) :
    W.cell? ⟨w.heap.size, 0, none⟩ = some x ∧ Below w.heap.size w W := by
  have b1 := (hb.block w.heap.size (by omega)).trans (alloc1 w (.cells #[x] t))
  exact ⟨by rw [cell_of_row _ _ _ _ _ _ b1]; rfl, (below1r w _).trans (hb.mono (by omega))⟩

set_option maxHeartbeats 800000 in
theorem Unframe_val {w : World} {a : Option Addr} {bl cap : Nat} {k : Nat} {xs : List Value}
    (h : ∀ W, Below w.heap.size w W → Calls Tryz.prog 41 #[.slice a bl cap] W fun e w' => ∃ v, e = .returned v ∧ Hid (w'.ownsRow W.heap.size 5 1 v k xs ∧ Below W.heap.size W w')) (hk : k ≤ 1000000) :
    Calls Tryz.prog 25 #[.slice a bl cap] w fun e w' => ∃ v, e = .returned (.tuple #[v, .int .i64 ((k : Int) + 8), .int .i64 0]) ∧ Hid (w'.ownsRow w.heap.size 5 1 v k xs ∧ Below w.heap.size w w') := by
  have hmf : ∀ (fn : Fn) (first cap : Array Value) (w : World), (Instr.makeFunc fn first cap).run Tryz.prog w = .ok (.func fn first cap) w := fun _ _ _ _ => rfl
  have HF : Hid (Calls Tryz.prog 39 #[.func (.func 40) #[] #[.pointer (some ⟨w.heap.size, 0, none⟩)]]
      (w.alloc (.cells #[.slice a bl cap] 22))
      fun e w' => ∃ v, e = .returned (.tuple #[v, .int .i64 0]) ∧ Hid (w'.ownsRow w.heap.size 5 1 v k xs ∧ Below w.heap.size w w')) := by
    refine Lib.hid ((faceB_ok (k := k) (xs := xs) enter_innerB fun W hW => ?_).mono ?_)
    · obtain ⟨h1, h4⟩ := box1 (by simpa using hW)
      exact innerB_ok h1 (h W h4)
    · rintro e w' ⟨v, rfl, hv⟩
      refine ⟨v, rfl, Lib.hid ⟨ownsRow_rebase hv.out.1 fun g hg => ?_, ?_⟩⟩
      · have := ownsRow_ge hv.out.1 g hg
        simp at this
        omega
      · exact (box1 (by simpa using hv.out.2)).2
  clear h
  go_enter Tryz.func25, Tryz.ntmps25
  go_wp2_with fail
  refine HF.out.mono ?_
  rintro e w' ⟨v, rfl, hv⟩
  obtain ⟨va, vc, rfl, _⟩ := ownsRow_form hv.out.1
  go_wp2_with fail
  simp [bodyPost, results, Tryz.results25, go_sem]
  exact hv

set_option maxHeartbeats 800000 in
theorem Unframe_panic {w : World} {a : Option Addr} {bl cap : Nat} (c : Int) (hc : c ≠ 0)
    (h : ∀ W, Below w.heap.size w W → Calls Tryz.prog 41 #[.slice a bl cap] W fun e w' => e = .panicked (errP c) ∧ Below W.heap.size W w') :
    Calls Tryz.prog 25 #[.slice a bl cap] w fun e w' => e = .returned (.tuple #[.slice none 0 0, .int .i64 0, .int .i64 c]) ∧ Below w.heap.size w w' := by
  have hmf : ∀ (fn : Fn) (first cap : Array Value) (w : World), (Instr.makeFunc fn first cap).run Tryz.prog w = .ok (.func fn first cap) w := fun _ _ _ _ => rfl
  have HF : Hid (Calls Tryz.prog 39 #[.func (.func 40) #[] #[.pointer (some ⟨w.heap.size, 0, none⟩)]]
      (w.alloc (.cells #[.slice a bl cap] 22))
      fun e w' => e = .returned (.tuple #[.slice none 0 0, .int .i64 c]) ∧ Below w.heap.size w w') := by
    refine Lib.hid ((faceB_panic (n := c) enter_innerB fun W hW => ?_).mono ?_)
    · obtain ⟨h1, h4⟩ := box1 (by simpa using hW)
      exact innerB_panic h1 (h W h4)
    · rintro e w' ⟨rfl, hv⟩
      exact ⟨rfl, (box1 (by simpa using hv)).2⟩
  have t1 : (c != 0) = true := by rw [bne_iff_ne]; exact hc
  clear h hc
  go_enter Tryz.func25, Tryz.ntmps25
  go_wp2_with fail
  refine HF.out.mono ?_
  rintro e w' ⟨rfl, hv⟩
  go_wp2_with fail
  simp [bodyPost, results, Tryz.results25, go_sem]
  exact hv
end Go.Proofs.YtehfoaicohnpfaaGreatDoor
/- Plain mathematics of frames: where their parts lie, and that a sum tells a byte that was changed. Conditions: none. -/
set_option maxRecDepth 100000
namespace Go.Proofs.YtehfoaicohnpfaaGreatDoor
open Go.RowKit Go.Maps Go.Sort

theorem quad_top : ∀ i < 16, ∀ j < 16, quad i / 268435456 = quad j / 268435456 → i = j := by decide +kernel
theorem xor_top (a q : Nat) (ha : a < 268435456) : (a ^^^ q) / 268435456 = q / 268435456 := by
  have h := Nat.shiftRight_xor_distrib (a := a) (b := q) (i := 28)
  rw [Nat.shiftRight_eq_div_pow, Nat.shiftRight_eq_div_pow, Nat.shiftRight_eq_div_pow, show (2 : Nat) ^ 28 = 268435456 from rfl, Nat.div_eq_of_lt ha, Nat.zero_xor] at h
  exact h
theorem xor_cancel {a b q : Nat} (h : a ^^^ q = b ^^^ q) : a = b := by
  have := congrArg (· ^^^ q) h
  simpa [Nat.xor_assoc] using this
theorem sumStep_inj {s t : Nat} (hs : s < 4294967296) (ht : t < 4294967296) (h : sumStep s = sumStep t) : s = t := by
  unfold sumStep at h
  have h1 := xor_top (s / 16) (quad (s % 16)) (by omega)
  have h2 := xor_top (t / 16) (quad (t % 16)) (by omega)
  rw [h, h2] at h1
  have h3 := quad_top _ (Nat.mod_lt _ (by omega)) _ (Nat.mod_lt _ (by omega)) h1
  rw [h3] at h
  have h4 := xor_cancel h
  omega
theorem xor_lt32 {s c : Nat} (hs : s < 4294967296) (hc : c < 256) : s ^^^ c < 4294967296 := Nat.xor_lt_two_pow (n := 32) (by omega) (by omega)
theorem sumByte_state {s t : Nat} {c d : UInt8} (hs : s < 4294967296) (ht : t < 4294967296) (h : sumByte s c = sumByte t d) : s ^^^ c.toNat = t ^^^ d.toNat := by
  have hc := c.toNat_lt
  have hd := d.toNat_lt
  unfold sumByte at h
  have h1 := xor_lt32 hs hc
  have h2 := xor_lt32 ht hd
  exact sumStep_inj h1 h2 (sumStep_inj (sumStep_lt _ h1) (sumStep_lt _ h2) h)
theorem fold_inj (l : List UInt8) : ∀ s t, s < 4294967296 → t < 4294967296 → l.foldl sumByte s = l.foldl sumByte t → s = t := by
  induction l with
  | nil => exact fun s t _ _ h => h
  | cons c r ih =>
    intro s t hs ht h
    have := ih _ _ (sumByte_lt s c hs) (sumByte_lt t c ht) h
    exact xor_cancel (sumByte_state hs ht this)
theorem sum_set (l : List UInt8) (j : Nat) (h : j < l.length) (c : UInt8) (hc : c ≠ l[j]) : sumN (l.set j c) ≠ sumN l := by
  intro e
  have b1 := fold_lt (l.set j c) 4294967295 (by omega)
  have b2 := fold_lt l 4294967295 (by omega)
  have e2 : (l.set j c).foldl sumByte 4294967295 = l.foldl sumByte 4294967295 := by unfold sumN at e; omega
  have hl : l = l.take j ++ l[j] :: l.drop (j + 1) := by simp
  have hs : l.set j c = l.take j ++ c :: l.drop (j + 1) := by rw [List.set_eq_take_append_cons_drop, if_pos h]
  rw [hs] at e2
  have e3 : (l.take j ++ c :: l.drop (j + 1)).foldl sumByte 4294967295 = (l.take j ++ l[j] :: l.drop (j + 1)).foldl sumByte 4294967295 := by rw [e2, ← hl]
  rw [List.foldl_append, List.foldl_append, List.foldl_cons, List.foldl_cons] at e3
  have hb := fold_lt (l.take j) 4294967295 (by omega)
  have e4 := fold_inj _ _ _ (sumByte_lt _ _ hb) (sumByte_lt _ _ hb) e3
  have e5 := sumByte_state hb hb e4
  rw [Nat.xor_comm, Nat.xor_comm _ (l[j].toNat)] at e5
  exact hc (UInt8.toNat_inj.1 (xor_cancel e5))

theorem frame_parts (b ext : List UInt8) (hb : b.length ≤ 262144) :
    numB ((frameL b ++ ext).take 4) = b.length ∧ (frameL b ++ ext).take (b.length + 4) = bytesN 4 b.length ++ b ∧
    numB (((frameL b ++ ext).drop (b.length + 4)).take 4) = sumN (bytesN 4 b.length ++ b) ∧ ((frameL b ++ ext).drop 4).take b.length = b := by
  have h4 := bytesN_len 4 b.length
  have h8 := bytesN_len 4 (sumN (bytesN 4 b.length ++ b))
  have hn : numB (bytesN 4 b.length) = b.length := numB_bytes 4 _ (by omega)
  have hs : numB (bytesN 4 (sumN (bytesN 4 b.length ++ b))) = sumN (bytesN 4 b.length ++ b) := numB_bytes 4 _ (by unfold sumN; omega)
  have hlen : (bytesN 4 b.length ++ b).length = b.length + 4 := by rw [List.length_append, h4]; omega
  unfold frameL
  generalize bytesN 4 (sumN (bytesN 4 b.length ++ b)) = tl at *
  refine ⟨?_, ?_, ?_, ?_⟩
  · rw [List.append_assoc, List.append_assoc, List.take_left' h4, hn]
  · rw [List.append_assoc, List.take_left' hlen]
  · rw [List.append_assoc, List.drop_left' hlen, List.take_left' h8, hs]
  · rw [List.append_assoc, List.append_assoc, List.drop_left' h4, List.take_left' rfl]
/-- a byte of the content that was changed -/
theorem frame_turned (b : List UInt8) (hb : b.length ≤ 262144) (j : Nat) (hj : j < b.length) (c : UInt8) (hc : c ≠ b[j]) :
    numB (((frameL b).set (4 + j) c).take 4) = b.length ∧
    numB ((((frameL b).set (4 + j) c).drop (b.length + 4)).take 4) ≠ sumN (((frameL b).set (4 + j) c).take (b.length + 4)) := by
  obtain ⟨p1, p2, p3, _⟩ := frame_parts b [] hb
  rw [List.append_nil] at p1 p2 p3
  have hlen := bytesN_len 4 b.length
  refine ⟨?_, ?_⟩
  · rw [List.take_set_of_le (by omega), p1]
  · rw [List.drop_set_of_lt (by omega), p3, List.take_set, p2]
    refine Ne.symm (sum_set _ _ (by rw [List.length_append, hlen]; omega) c ?_)
    rw [List.getElem_append_right (by omega)]
    simpa [hlen] using hc
theorem frame_get (b : List UInt8) (j : Nat) (hj : j < b.length) : (frameL b)[4 + j]'(by rw [frameL_len]; omega) = b[j] := by
  have hlen := bytesN_len 4 b.length
  unfold frameL
  rw [List.getElem_append_left (by rw [List.length_append, hlen]; omega), List.getElem_append_right (by omega)]
  simp [hlen]
end Go.Proofs.YtehfoaicohnpfaaGreatDoor
/- Contract of codec.Unframe at any bytes: the content of the frame that they begin with, or an error. Conditions: the table of Sum; at most 1000000 bytes. -/
set_option maxRecDepth 100000
namespace Go.Proofs.YtehfoaicohnpfaaGreatDoor
open Go.RowKit Go.Maps Go.Sort

/-- the content of the frame that bytes begin with -/
def unfL (l : List UInt8) : Option (List UInt8) :=
  if l.length < 4 then none else if 262144 < numB (l.take 4) then none else if l.length < numB (l.take 4) + 8 then none
  else if numB ((l.drop (numB (l.take 4) + 4)).take 4) = sumN (l.take (numB (l.take 4) + 4)) then some ((l.drop 4).take (numB (l.take 4))) else none
theorem unf_len {l b : List UInt8} (h : unfL l = some b) : b.length ≤ 262144 ∧ b.length + 8 ≤ l.length := by
  unfold unfL at h
  split at h
  · cases h
  · split at h
    · cases h
    · split at h
      · cases h
      · split at h
        · simp only [Option.some.injEq] at h
          subst h
          simp only [List.length_take, List.length_drop]
          omega
        · cases h
set_option maxHeartbeats 800000 in
theorem read_far {w : World} {a : Option Addr} {n cap : Nat} {l : List UInt8} (h : Holds w (.slice a n cap) (u8s l)) (hn : n = l.length) (h4 : 4 ≤ n) (hm : n ≤ 1000000) (hc : 262144 < numB (l.take 4)) :
    Calls Tryz.prog 41 #[.slice a n cap] w fun e w' => e = .panicked (errP 6) ∧ Below w.heap.size w w' := by
  have HW := Lib.hid (word_any h hn h4 hm)
  obtain ⟨c, hc'⟩ : ∃ c, c = numB (l.take 4) := ⟨_, rfl⟩
  rw [← hc'] at hc HW
  have t1 : decide ((n : Int) < 4) = false := decide_eq_false (by omega)
  have t2 : decide ((262144 : Int) < (c : Int)) = true := decide_eq_true (by omega)
  clear h hn hc' h4
  go_enter Tryz.func41, Tryz.ntmps41
  go_wp2_with fail
  refine HW.out.mono ?_
  rintro e w1 ⟨rfl, rfl⟩
  go_wp2_with fail
  simp [bodyPost, errP]
  exact Below.refl _ _
/-- what Unframe answers at any bytes -/
def UnfP (w : World) (l : List UInt8) (e : Ending) (w' : World) : Prop :=
  Below w.heap.size w w' ∧ ((∃ b v, unfL l = some b ∧ e = .returned (.tuple #[v, .int .i64 ((b.length : Int) + 8), .int .i64 0]) ∧ w'.ownsRow w.heap.size 5 1 v b.length (u8s b)) ∨
    (∃ c : Int, unfL l = none ∧ c ≠ 0 ∧ e = .returned (.tuple #[.slice none 0 0, .int .i64 0, .int .i64 c])))
theorem unframe_any {w : World} (hq : Quads w) {a : Option Addr} {n cap : Nat} {l : List UInt8} (h : Holds w (.slice a n cap) (u8s l)) (hm : l.length ≤ 1000000) :
    Calls Tryz.prog 25 #[.slice a n cap] w (UnfP w l) := by
  have hn : n = l.length := by have := h.len.1; rw [u8s_len] at this; exact this.symm
  have no : ∀ c : Int, c ≠ 0 → unfL l = none → (∀ W, Below w.heap.size w W → Calls Tryz.prog 41 #[.slice a n cap] W fun e w' => e = .panicked (errP c) ∧ Below W.heap.size W w') →
      Calls Tryz.prog 25 #[.slice a n cap] w (UnfP w l) := fun c hc hu hk =>
    (Unframe_panic c hc hk).mono fun e w' ⟨h1, h2⟩ => ⟨h2, .inr ⟨c, hu, hc, h1⟩⟩
  by_cases h4 : l.length < 4
  · exact no 10 (by omega) (by unfold unfL; rw [if_pos h4]) fun W _ => read_short a n cap (by omega)
  by_cases hc : 262144 < numB (l.take 4)
  · exact no 6 (by omega) (by unfold unfL; rw [if_neg h4, if_pos hc]) fun W hW => read_far (h.below hW) hn (by omega) (by omega) hc
  by_cases hl : l.length < numB (l.take 4) + 8
  · exact no 10 (by omega) (by unfold unfL; rw [if_neg h4, if_neg hc, if_pos hl]) fun W hW => read_cut (h.below hW) hn (by omega) (by omega) (by omega) (by omega)
  by_cases hs : numB ((l.drop (numB (l.take 4) + 4)).take 4) = sumN (l.take (numB (l.take 4) + 4))
  · have hu : unfL l = some ((l.drop 4).take (numB (l.take 4))) := by unfold unfL; rw [if_neg h4, if_neg hc, if_neg hl, if_pos hs]
    have hk : ((l.drop 4).take (numB (l.take 4))).length = numB (l.take 4) := by rw [List.length_take, List.length_drop]; omega
    refine (Unframe_val (k := numB (l.take 4)) (xs := u8s ((l.drop 4).take (numB (l.take 4)))) (fun W hW => ?_) (by omega)).mono ?_
    · exact read_good (hq.below hW hq.1) (h.below hW) hn (by omega) (by omega) (by omega) hs
    · rintro e w' ⟨v, rfl, hv⟩
      refine ⟨hv.out.2, .inl ⟨_, v, hu, by rw [hk], ?_⟩⟩
      rw [hk]
      exact hv.out.1
  · exact no 8 (by omega) (by unfold unfL; rw [if_neg h4, if_neg hc, if_neg hl, if_neg hs]) fun W hW => read_sum (hq.below hW hq.1) (h.below hW) hn (by omega) (by omega) (by omega) hs
/-- a frame, and what is behind it -/
theorem unf_frame {b ext : List UInt8} (hb : b.length ≤ 262144) : unfL (frameL b ++ ext) = some b := by
  have hl := frameL_len b
  have hla : (frameL b ++ ext).length = b.length + 8 + ext.length := by rw [List.length_append, hl]
  obtain ⟨p1, p2, p3, p4⟩ := frame_parts b ext hb
  unfold unfL
  rw [if_neg (by omega), p1, if_neg (by omega), if_neg (by omega), p2, p3, if_pos rfl, p4]
/-- a beginning of a frame is none -/
theorem unf_cut {b : List UInt8} (hb : b.length ≤ 262144) {m : Nat} (hm : m < b.length + 8) : unfL ((frameL b).take m) = none := by
  have hl := frameL_len b
  obtain ⟨p1, _⟩ := frame_parts b [] hb
  rw [List.append_nil] at p1
  unfold unfL
  by_cases h4 : ((frameL b).take m).length < 4
  · rw [if_pos h4]
  · rw [List.length_take] at h4
    have e : ((frameL b).take m).take 4 = (frameL b).take 4 := by rw [List.take_take, Nat.min_eq_left (by omega)]
    rw [if_neg (by rw [List.length_take]; omega), e, p1, if_neg (by omega), if_pos (by rw [List.length_take]; omega)]
end Go.Proofs.YtehfoaicohnpfaaGreatDoor
