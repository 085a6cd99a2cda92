/- The texts KmvNo Words KmvSide CelB, one behind the other; each one's own comment says what it holds. -/
import Derived.Test.YtlhpbfjelgmkeaaGreatCellOrderRowGD
import Derived.Test.YtlhpbfjelgmkeaaGreatTells
import Derived.Test.YtlhpbfjelgmkeaaGreatCelA
import Derived.Test.YtlhpbfjelgmkeaaGreatCellOrderRowGB
import Derived.Test.YtlhpbfjelgmkeaaGreatCellOrderRowGC
/- Contracts of kmv's calls of a sketch that no call made. Conditions: a nil or a zero sketch. -/
set_option maxRecDepth 100000
namespace Go.Proofs.YtlhpbfjelgmkeaaGreat
open Go.RowKit Go.Maps Go.Sort

/-- no call made it -/
def NoK (w : World) (x : Option Addr) : Prop := x = none ∨ ∃ b, x = some ⟨b, 0, none⟩ ∧ w.cell? ⟨b, 0, none⟩ = some (.int .i64 0)
theorem NoK.below {w w' : World} {x : Option Addr} (h : NoK w x) (hb : Below w.heap.size w w') : NoK w' x := by
  rcases h with rfl | ⟨b, rfl, hc⟩
  · exact .inl rfl
  · exact .inr ⟨b, rfl, by rw [hb.cell (World.block_lt_of_cell? w _ hc)]; exact hc⟩
def MadeNo (w : World) (x : Option Addr) : Prop := Calls Tryz.prog 111 #[.pointer x] w fun e w' => e = .returned (.bool false) ∧ w = w'
theorem made_no {w : World} {x : Option Addr} (h : NoK w x) : MadeNo w x := by
  rcases h with rfl | ⟨b, rfl, hc⟩
  · unfold MadeNo
    go_enter Tryz.func111, Tryz.ntmps111
    go_wp2_with fail
    go_ret
    exact ⟨rfl, rfl⟩
  · unfold MadeNo
    go_enter Tryz.func111, Tryz.ntmps111
    go_wp2_with fail
    go_ret
    exact ⟨rfl, rfl⟩

section
variable {w : World} {x : Option Addr} (h : NoK w x)
include h
theorem ins_no (n : Nat) : Calls Tryz.prog 208 #[.pointer x, .int .u64 (n : Int)] w fun e w' => e = .returned (.tuple #[]) ∧ w = w' := by
  have K := made_no h
  unfold MadeNo at K
  clear h
  go_enter Tryz.func208, Tryz.ntmps208
  go_wp2_with fail
  refine K.mono ?_
  rintro e w' ⟨rfl, rfl⟩
  clear K
  go_wp2_with fail
  refine bodyPost_ret (results_none rfl _ _ _) rfl ?_
  exact ⟨rfl, rfl⟩
theorem merge_no (y : Option Addr) : Calls Tryz.prog 207 #[.pointer x, .pointer y] w fun e w' => e = .returned (.int .i64 1) ∧ w = w' := by
  have K := made_no h
  unfold MadeNo at K
  clear h
  go_enter Tryz.func207, Tryz.ntmps207
  go_wp2_with fail
  refine K.mono ?_
  rintro e w' ⟨rfl, rfl⟩
  clear K
  go_wp2_with fail
  go_ret
  exact ⟨rfl, rfl⟩
theorem answers_no : Calls Tryz.prog 70 #[.pointer x] w fun e w' => e = .returned (.slice none 0 0) ∧ w = w' := by
  have K := made_no h
  unfold MadeNo at K
  clear h
  go_enter Tryz.func70, Tryz.ntmps70
  go_wp2_with fail
  refine K.mono ?_
  rintro e w' ⟨rfl, rfl⟩
  clear K
  go_wp2_with fail
  go_ret
  exact ⟨rfl, rfl⟩
theorem estimate_no : Calls Tryz.prog 42 #[.pointer x] w fun e w' => e = .returned (.int .i64 0) ∧ w = w' := by
  have K := answers_no h
  clear h
  go_enter Tryz.func42, Tryz.ntmps42
  go_wp2_with fail
  refine K.mono ?_
  rintro e w' ⟨rfl, rfl⟩
  clear K
  go_wp2_with fail
  go_ret
  exact ⟨rfl, rfl⟩
end
/-- of a made one with one that no call made -/
theorem merge_arg {T : Tags} {i : Nat} {w : World} {p : Nat} {V : SkV} (h : Sk p V T i w) {y : Option Addr} (g : NoK w y) :
    Calls Tryz.prog 207 #[.pointer (some ⟨p, 0, none⟩), .pointer y] w fun e w' => e = .returned (.int .i64 2) ∧ Below w.heap.size w w' := by
  obtain ⟨sa, sc, cb, rows, g1⟩ := h
  obtain ⟨c0, c1, c2⟩ := g1.cells
  have KP := made_yes c0 g1.good.set.t2
  have KN := Lib.hid (fun n => made_no (g.below (below_drewN w n)))
  unfold MadeNo at KN
  clear g1 g c1 c2
  go_enter Tryz.func207, Tryz.ntmps207
  go_wp2_with fail
  refine KP.mono ?_
  rintro e w' ⟨rfl, rfl⟩
  clear KP
  go_wp2_with fail
  go_quiet ((exact Calls.quiet_of_same ((KN.out _).mono fun _ _ ⟨h, hw⟩ => ⟨h, hw.symm⟩)))
  go_wp2_with fail
  go_ret
  exact ⟨rfl, below_drewN _ _⟩
end Go.Proofs.YtlhpbfjelgmkeaaGreat
/- Contract of talusref01.Words: are two lists of numbers alike. Conditions: small lists. -/
set_option maxRecDepth 100000
namespace Go.Proofs.YtlhpbfjelgmkeaaGreat
open Go.RowKit Go.Maps Go.Sort

theorem below_drew {w wr : World} {B : Nat} (h : Below B w wr) (n : Nat) : Below B w (wr.drewN n) := ⟨h.os, h.tape, h.output, h.size, h.block⟩

end Go.Proofs.YtlhpbfjelgmkeaaGreat
/- The calls of a sketch where several things stand side by side. Conditions: sketches that were made. -/
set_option maxRecDepth 100000
namespace Go.Proofs.YtlhpbfjelgmkeaaGreat
open Go.RowKit Go.Maps Go.Sort

section
variable {w0 w : World} {E : List (Nat × Thing)} {i j : Nat} {p q : Nat} {V U : SkV}

theorem side_new (h : Side w0 E w) (i : Nat) {sa : Option Addr} {n sc : Nat} {S : List (Nat × Nat)} (hs : SetAt w sa n sc S) (t : Nat) (k m : Int) (hg : goodB t S k m = true) :
    Calls Tryz.prog 62 #[setV t sa n sc k m] w fun e w' => ∃ p, e = .returned (.pointer (some ⟨p, 0, none⟩)) ∧ Hid (Side w0 ((i, Sk p (SkV.empty t S)) :: E) w') :=
  h.make i (fun p => Sk p (SkV.empty t S)) (fun p => Sk.framed p _) (R := fun p e => e = .returned (.pointer (some ⟨p, 0, none⟩))) fun T _ => new_any hs t k m hg T i
theorem side_ins (h : Side w0 ((i, Sk p V) :: E) w) (hi : ∀ e ∈ E, e.1 ≠ i) {x : Nat} (hx : x < 18446744073709551616) :
    Calls Tryz.prog 208 #[.pointer (some ⟨p, 0, none⟩), .int .u64 (x : Int)] w fun e w' => e = .returned (.tuple #[]) ∧ Hid (Side w0 ((i, Sk p (V.ins x)) :: E) w') :=
  (h.step hi (Sk.framed p (V.ins x)) (Pr := fun e => e = .returned (.tuple #[])) fun _ _ hA => (ins_any (hA _ (List.mem_cons_self ..)) hx).mono fun _ _ ⟨a, b⟩ => ⟨a, b.out⟩).mono fun _ _ ⟨a, b⟩ => ⟨a, b⟩
theorem side_est (h : Side w0 E w) (hx : (i, Sk p V) ∈ E) :
    Calls Tryz.prog 42 #[.pointer (some ⟨p, 0, none⟩)] w fun e w' => e = .returned (.int .i64 (midOf V.answers)) ∧ Below w.heap.size w w' :=
  h.read hx (Pr := fun e => e = .returned (.int .i64 (midOf V.answers))) fun _ hA => estimate_any hA
theorem side_thing (h : Side w0 E w) {A : Thing} (hx : (i, A) ∈ E) : ∃ T, A T i w := by
  obtain ⟨T, h⟩ := h
  exact ⟨T, (h.at_ _ hx).2⟩
theorem side_answers (h : Side w0 E w) (hx : (i, Sk p V) ∈ E) :
    Calls Tryz.prog 70 #[.pointer (some ⟨p, 0, none⟩)] w (AnsAt w V.answers) := by
  obtain ⟨T, hA⟩ := side_thing h hx
  exact answers_any hA
theorem side_merge (h : Side w0 ((i, Sk p V) :: E) w) (hi : ∀ e ∈ E, e.1 ≠ i) (hx : (j, Sk q U) ∈ E) (ht : U.t = V.t) (hS : U.seeds = V.seeds) :
    Calls Tryz.prog 207 #[.pointer (some ⟨p, 0, none⟩), .pointer (some ⟨q, 0, none⟩)] w fun e w' => e = .returned (.int .i64 0) ∧ Hid (Side w0 ((i, Sk p (V.merge U)) :: E) w') :=
  (h.step hi (Sk.framed p (V.merge U)) (Pr := fun e => e = .returned (.int .i64 0)) fun _ _ hA => merge_two (hA _ (List.mem_cons_self ..)) (hA _ (List.mem_cons_of_mem _ hx)) (fun e => hi _ hx e.symm) ht hS).mono fun _ _ ⟨a, b⟩ => ⟨a, b⟩
theorem side_merge_self (h : Side w0 E w) (hx : (i, Sk p V) ∈ E) :
    Calls Tryz.prog 207 #[.pointer (some ⟨p, 0, none⟩), .pointer (some ⟨p, 0, none⟩)] w fun e w' => e = .returned (.int .i64 0) ∧ Below w.heap.size w w' := by
  obtain ⟨T, hA⟩ := side_thing h hx
  exact merge_self hA
theorem side_merge_arg (h : Side w0 E w) (hx : (i, Sk p V) ∈ E) {y : Option Addr} (g : NoK w y) :
    Calls Tryz.prog 207 #[.pointer (some ⟨p, 0, none⟩), .pointer y] w fun e w' => e = .returned (.int .i64 2) ∧ Below w.heap.size w w' := by
  obtain ⟨T, hA⟩ := side_thing h hx
  exact merge_arg hA g
end

/-- the settings of the document's example -/
theorem set_one {w : World} {b : Nat} (h : w.heap[b]? = some (.cells #[.int .u64 1, .int .u64 0] 95 (0, 0))) : SetAt w (some ⟨b, 0, none⟩) 1 1 [(1, 0)] where
  len := rfl
  cap := ⟨Nat.le_refl _, by unfold maxLen; omega⟩
  lt := fun s hs => by simp at hs; subst hs; exact ⟨by decide, by decide⟩
  at_ := fun _ => ⟨_, rfl, fun j u hj => by
    rw [Addr.add_at, Nat.zero_add, cell_of_row _ _ _ _ _ _ h]
    simpa [flat] using hj⟩
theorem good_one : goodB ((2 : Nat) : Int) [(1, 0)] 1 1 = true := by decide

theorem midOf_one (n : Nat) : midOf [n] = n := by simp [midOf, sortI]
def VO : SkV := SkV.empty 2 [(1, 0)]
def V5 (k : Nat) : SkV := if k = 0 then VO else if k = 1 then VO.ins 5 else if k = 2 then (VO.ins 5).ins 5 else ((VO.ins 5).ins 5).ins 9
theorem V7_L : (VO.ins 7).L = [[7]] := by decide
theorem V5_L : (V5 3).L = [[5, 9]] := by decide
theorem V7_mid : midOf (VO.ins 7).answers = 1 := by
  unfold SkV.answers
  rw [V7_L]
  exact midOf_one 1
theorem V5_mid : midOf (V5 3).answers = 256204778801521550 := by
  unfold SkV.answers
  rw [V5_L]
  exact midOf_one 256204778801521550

end Go.Proofs.YtlhpbfjelgmkeaaGreat
/- What a measure keeps: what each state is in memory, and taking a value. Conditions: counts are small; values of kinds. -/
set_option maxRecDepth 100000
namespace Go.Proofs.YtlhpbfjelgmkeaaGreat
open Go.RowKit Go.Maps Go.Sort Go.Lib
open Wide

/-- what a measure keeps -/
inductive Sv where
  | cnt (n : Nat)
  | sum (N : Int) (n : Nat)
  | low (v : VV)
  | high (v : VV)
  | dis (p : Nat) (V : SkV)
/-- a pointer's interface value -/
def Sv.val (b : Nat) : Sv → Value
  | .cnt _ => .iface 107 (.pointer (some ⟨b, 0, none⟩))
  | .sum _ _ => .iface 112 (.pointer (some ⟨b, 0, none⟩))
  | .low _ => .iface 116 (.pointer (some ⟨b, 0, none⟩))
  | .high _ => .iface 121 (.pointer (some ⟨b, 0, none⟩))
  | .dis _ _ => .iface 124 (.pointer (some ⟨b, 0, none⟩))
def cntO (n : Nat) : Obj := .cells #[.int .i64 (n : Int)] 111 (0, 0)
def sumO (N : Int) (n : Nat) : Obj := .cells #[.int .i64 (hiW N), .int .u64 (loW N), .int .i64 (n : Int)] 115 (0, 0)
def lowO (v : VV) : Obj := .cells #[.int .i64 v.k, .int .i64 v.n, .string v.s] 120 (0, 0)
def highO (v : VV) : Obj := .cells #[.int .i64 v.k, .int .i64 v.n, .string v.s] 123 (0, 0)
def disO (p : Nat) : Obj := .cells #[.pointer (some ⟨p, 0, none⟩)] 128 (0, 0)
def DisT (b p : Nat) (V : SkV) : Thing := fun T i w => Box b (disO p) T i w ∧ Sk p V T i w
theorem DisT.framed (b p : Nat) (V : SkV) : Framed (DisT b p V) := fun T T' i w w' h hT hw => ⟨Box.framed _ _ T T' i w w' h.1 hT hw, Sk.framed _ _ T T' i w w' h.2 hT hw⟩
/-- a state in memory -/
def StT (b : Nat) : Sv → Thing
  | .cnt n => OBox b (cntO n)
  | .sum N n => OBox b (sumO N n)
  | .low v => OBox b (lowO v)
  | .high v => OBox b (highO v)
  | .dis p V => DisT b p V
theorem StT.framed (b : Nat) (s : Sv) : Framed (StT b s) := by
  cases s
  · exact OBox.framed _ _
  · exact OBox.framed _ _
  · exact OBox.framed _ _
  · exact OBox.framed _ _
  · exact DisT.framed _ _ _
/-- block b has become ob; all else is as it was -/
def Upd (b : Nat) (ob : Obj) (w w' : World) : Prop := Else (fun k => k = b) w w' ∧ w'.heap[b]? = some ob
theorem Upd.start {b : Nat} {ob : Obj} {w w1 : World} (h : w.heap[b]? = some ob) (hb : Below w.heap.size w w1) : Upd b ob w w1 :=
  ⟨(Else.refl _ w).low hb, (hb.block _ (lt_of_heap h)).trans h⟩
theorem Upd.set {b : Nat} {cs : Array Value} {t : TypeId} {w w1 : World} (h : Upd b (.cells cs t (0, 0)) w w1) (j : Nat) (u : Value) : Upd b (.cells (cs.setIfInBounds j u) t (0, 0)) w (w1.setCell ⟨b, j, none⟩ u) :=
  ⟨h.1.setCell (.inl rfl) u, heap_set h.2 u⟩
theorem Upd.below {b : Nat} {ob : Obj} {w w1 w2 : World} (h : Upd b ob w w1) (hb : Below w1.heap.size w1 w2) : Upd b ob w w2 :=
  ⟨h.1.low hb, (hb.block _ (lt_of_heap h.2)).trans h.2⟩
theorem Upd.trans {b : Nat} {o1 o2 : Obj} {w w1 w2 : World} (h : Upd b o1 w w1) (k : Upd b o2 w1 w2) : Upd b o2 w w2 :=
  ⟨h.1.trans k.1 (fun _ hx => .inl hx), k.2⟩
theorem side_upd {w0 w w' : World} {E : List (Nat × Thing)} {i b : Nat} {o o' : Obj} (h : Side w0 ((i, OBox b o) :: E) w) (hi : ∀ e ∈ E, e.1 ≠ i) (hu : Upd b o' w w') : Side w0 ((i, OBox b o') :: E) w' := by
  obtain ⟨T, h⟩ := h
  obtain ⟨_, h1, _⟩ := h.at_ _ (List.mem_cons_self ..)
  have hs : SideT w0 T E w := ⟨h.base, h.old, fun e he => h.at_ e (List.mem_cons_of_mem _ he)⟩
  have hs' := hs.next (T' := T) (fun _ _ => rfl) (hu.1.mono (fun x hx => by rw [hx]; exact h1)) hi
  refine ⟨T, hs'.base, hs'.old, fun e he => ?_⟩
  rcases List.mem_cons.1 he with rfl | he
  · exact ⟨OBox.framed _ _, h1, hu.2⟩
  · exact hs'.at_ e he
theorem cplus_any (a b : Nat) (h : a + b ≤ 4611686018427387904) (w : World) : Calls Tryz.prog 38 #[.int .i64 (a : Int), .int .i64 (b : Int)] w fun e w' => e = .returned (.int .i64 ((a + b : Nat) : Int)) ∧ w = w' := by
  have t0 : decide ((9223372036854775807 : Int) - (b : Int) < (a : Int)) = false := decide_eq_false (by omega)
  have t1 : IntKind.i64.wrap ((9223372036854775807 : Int) - (b : Int)) = (9223372036854775807 : Int) - (b : Int) := by rw [IntKind.wrap_i64]; omega
  have t2 : IntKind.i64.wrap ((a : Int) + (b : Int)) = (a : Int) + (b : Int) := by rw [IntKind.wrap_i64]; omega
  clear h
  go_enter Tryz.func38, Tryz.ntmps38
  go_wp2_with fail
  go_ret
  exact ⟨by simp, rfl⟩
theorem one_val (v : VV) : v.val = .agg #[.int .i64 v.k, .int .i64 v.n, .string v.s] := rfl
theorem take_cnt {w : World} {b n : Nat} (h : w.heap[b]? = some (cntO n)) (hn : n ≤ 1099511627776) (v : VV) (id : Int) :
    Calls Tryz.prog 194 #[.pointer (some ⟨b, 0, none⟩), v.val, .int .i64 id] w fun e w' => e = .returned (.tuple #[]) ∧ Upd b (cntO (n + 1)) w w' := by
  have hb := below_c w (.cells #[.int .i64 v.k, .int .i64 v.n, .string v.s] 36)
  have hu := Upd.start h hb
  obtain ⟨W, hW⟩ : ∃ W, w.alloc (.cells #[.int .i64 v.k, .int .i64 v.n, .string v.s] 36) = W := ⟨_, rfl⟩
  rw [hW] at hu
  have c0 : W.cell? ⟨b, 0, none⟩ = some (.int .i64 (n : Int)) := by rw [cell_of_row _ _ _ _ _ _ hu.2]; rfl
  have f0 := free_of_row hu.2 0
  have KP : Calls Tryz.prog 38 #[.int .i64 (n : Int), .int .i64 1] W fun e w' => e = .returned (.int .i64 ((n + 1 : Nat) : Int)) ∧ W = w' := cplus_any n 1 (by omega) W
  have FIN := Lib.hid (show Upd b (cntO (n + 1)) w (W.setCell ⟨b, 0, none⟩ (.int .i64 ((n + 1 : Nat) : Int))) from hu.set 0 _)
  rw [one_val]
  clear h hb hu hn
  go_enter Tryz.func194, Tryz.ntmps194
  go_wp2_with fail
  refine KP.mono ?_
  rintro e w' ⟨rfl, rfl⟩
  clear KP hW
  go_wp2_with fail
  go_end0
  exact ⟨rfl, FIN.out⟩
theorem vsetC {w : World} {B G j : Nat} (hB : B ≤ G) (v : Value) : Below B w (w.setCell ⟨G, j, none⟩ v) :=
  (Below.refl _ _).setCell hB v
theorem undrewC {G : Nat} {w w' : World} (h : Below G w.drew w') : Below G w w' := ⟨h.os, h.tape, h.output, h.size, h.block⟩
theorem set2C {w : World} {S : Nat} {t : TypeId} {x0 x1 y0 y1 : Value} (h : w.heap[S]? = some (.cells #[x0, x1] t (0, 0))) :
    (w.cell? ⟨S, 0, none⟩ = some x0 ∧ w.cell? ⟨S, 1, none⟩ = some x1 ∧ w.frozen? ⟨S, 0, none⟩ = false ∧ w.frozen? ⟨S, 1, none⟩ = false) ∧
    ((w.setCell ⟨S, 0, none⟩ y0).setCell ⟨S, 1, none⟩ y1).heap[S]? = some (.cells #[y0, y1] t (0, 0)) ∧ Below S w ((w.setCell ⟨S, 0, none⟩ y0).setCell ⟨S, 1, none⟩ y1) := by
  refine ⟨⟨?_, ?_, free_of_row h 0, free_of_row h 1⟩, heap_set (heap_set h y0) y1, (vsetC (Nat.le_refl _) _).trans (vsetC (Nat.le_refl _) _)⟩
  · rw [cell_of_row _ _ _ _ _ _ h]; rfl
  · rw [cell_of_row _ _ _ _ _ _ h]; rfl
theorem below_cd (w : World) (o : Obj) : Below w.heap.size w (w.alloc o).drew := (below_c w o).trans ((below_drew1 _).mono (below_c w o).size)
theorem heap_boxC {w w7 : World} {o : Obj} (hb : Below (w.alloc o).drew.heap.size (w.alloc o).drew w7) : w7.heap[w.heap.size]? = (w.alloc o).heap[w.heap.size]? := hb.block _ (by show w.heap.size < (w.alloc o).heap.size; simp)
/-- a box of two cells, wherever it lies -/
def Box2 (lo : Nat) (t : TypeId) (x y : Value) (W0 : World) (u : Value) (W : World) : Prop :=
  ∃ B, u = .pointer (some ⟨B, 0, none⟩) ∧ lo ≤ B ∧ W.heap[B]? = some (.cells #[x, y] t (0, 0)) ∧ Below lo W0 W
theorem box2_after {w6 w7 : World} {t : TypeId} {x y : Value} (hb : Below w6.heap.size w6 w7) : Box2 w6.heap.size t x y w6 (.pointer (some ⟨w7.heap.size, 0, none⟩)) (w7.alloc (.cells #[x, y] t)) :=
  ⟨_, rfl, hb.size, heap_alloc_new _ _, hb.trans ((below_c _ _).mono hb.size)⟩
theorem box2_ahead {w6 w7 : World} {t : TypeId} {x y x0 x1 : Value} (h0 : w7.heap[w6.heap.size]? = some (.cells #[x0, x1] t (0, 0))) (hb : Below w6.heap.size w6 w7) :
    Box2 w6.heap.size t x y w6 (.pointer (some ⟨w6.heap.size, 0, none⟩)) ((w7.setCell ⟨w6.heap.size, 0, none⟩ x).setCell ⟨w6.heap.size, 1, none⟩ y) :=
  ⟨_, rfl, Nat.le_refl _, (set2C (y0 := x) (y1 := y) h0).2.1, hb.trans (set2C (y0 := x) (y1 := y) h0).2.2⟩
theorem fit_small {N M : Int} (h : -4611686018427387904 * 4611686018427387904 ≤ N ∧ N ≤ 4611686018427387904 * 4611686018427387904) (hM : -9223372036854775808 ≤ M ∧ M < 9223372036854775808) : fitW (N + M) = true := by
  rw [fit_iff]; omega
/-- adding to a sum -/
theorem add_sum {w : World} {b n : Nat} {N : Int} (h : w.heap[b]? = some (sumO N n)) (hN : fitW N = true) {M : Int} (hM : fitW M = true) (hs : fitW (N + M) = true) (m : Nat) (hn : n + m ≤ 4611686018427387904) :
    Calls Tryz.prog 197 #[.pointer (some ⟨b, 0, none⟩), wv M, .int .i64 (m : Int)] w fun e w' => e = .returned (.tuple #[]) ∧ Upd b (sumO (N + M) (n + m)) w w' := by
  obtain ⟨n1, n2, n3⟩ := w_split N
  obtain ⟨m1, m2, m3⟩ := w_split M
  have nh := fit_hi hN
  have mh := fit_hi hM
  have hb := below_c w (.cells #[.int .i64 (hiW M), .int .u64 (loW M)] 45)
  have hu := Upd.start h hb
  have KA := fun W => Wide.add_any (hiW N) (loW N) (hiW M) (loW M) W nh.1 nh.2 n2 n3 mh.1 mh.2 m2 m3
  rw [n1, m1] at KA
  have ea : ansW (N + M) = N + M := by unfold ansW; rw [if_pos hs]
  rw [ea, hs] at KA
  have KP := fun W => cplus_any n m hn W
  obtain ⟨W, hW⟩ : ∃ W, w.alloc (.cells #[.int .i64 (hiW M), .int .u64 (loW M)] 45) = W := ⟨_, rfl⟩
  have hW0 : W.heap[w.heap.size]? = some (.cells #[.int .i64 (hiW M), .int .u64 (loW M)] 45 (0, 0)) := by rw [← hW]; exact heap_alloc_new w _
  rw [hW] at hu
  have HS := Lib.hid (fun (V : World) (hv : Below W.heap.size W V) => (show V.cell? ⟨b, 0, none⟩ = some (.int .i64 (hiW N)) ∧ V.cell? ⟨b, 1, none⟩ = some (.int .u64 (loW N)) ∧ V.cell? ⟨w.heap.size, 0, none⟩ = some (.int .i64 (hiW M)) ∧ V.cell? ⟨w.heap.size, 1, none⟩ = some (.int .u64 (loW M)) from by
    have g1 := (hv.block _ (lt_of_heap hu.2)).trans hu.2
    have g2 := (hv.block _ (lt_of_heap hW0)).trans hW0
    exact ⟨by rw [cell_of_row _ _ _ _ _ _ g1]; rfl, by rw [cell_of_row _ _ _ _ _ _ g1]; rfl, by rw [cell_of_row _ _ _ _ _ _ g2]; rfl, by rw [cell_of_row _ _ _ _ _ _ g2]; rfl⟩))
  have HU := Lib.hid hu
  have HN := Lib.hid (show Upd b (sumO N n) w W → True from fun _ => trivial)
  obtain ⟨x0, y0, x1, y1, eh, el, gh, gl⟩ : ∃ x0 y0 x1 y1, hiW N = x0 ∧ loW N = y0 ∧ hiW M = x1 ∧ loW M = y1 := ⟨_, _, _, _, rfl, rfl, rfl, rfl⟩
  obtain ⟨x2, y2, fh, fl⟩ : ∃ x2 y2, hiW (N + M) = x2 ∧ loW (N + M) = y2 := ⟨_, _, rfl, rfl⟩
  unfold wv at KA ⊢
  rw [eh, el, gh, gl, fh, fl] at KA
  rw [eh, el, gh, gl] at HS
  rw [gh, gl] at hW ⊢
  have c2 : ∀ (V : World) (o' : Obj), V.heap[b]? = some (sumO N n) → True := fun _ _ _ => trivial
  have HFH := Lib.hid fh
  have HFL := Lib.hid fl
  have HPP := Lib.hid KP
  clear h hb hu hN hM hs n1 n2 n3 m1 m2 m3 nh mh ea eh el gh gl fh fl hW0 HN c2 hn KP
  go_enter Tryz.func197, Tryz.ntmps197
  go_upto_region 1 with (fail)
  clear hW
  go_cut [6, 7] from 8 to 16 (fun u6 u7 wx => u7 = .bool true ∧ Hid (Box2 W.heap.size 45 (.int .i64 x2) (.int .u64 y2) W u6 wx))
  case first =>
    go_region_held3 (fun V => V.cell? ⟨b, 0, none⟩ = some (.int .i64 x0) ∧ V.cell? ⟨b, 1, none⟩ = some (.int .u64 y0) ∧ V.cell? ⟨w.heap.size, 0, none⟩ = some (.int .i64 x1) ∧ V.cell? ⟨w.heap.size, 1, none⟩ = some (.int .u64 y1)) (first | assumption | exact HS.out _ (by first | assumption | exact Below.refl _ _ | exact below_drew1 _ | exact below_c _ _ | exact below_cd _ _) | exact HS.out _ (Below.trans hb67 (hc7 _ _).2.2) | exact HS.out _ (Below.trans (by assumption) (by first | exact Below.mono (below_c _ _) (Below.size (by assumption)) | exact Below.mono (below_drew1 _) (Below.size (by assumption)) | exact Below.mono (below_cd _ _) (Below.size (by assumption))))) (first | (go_at_call 198; refine (KA W.drew).mono ?_; rintro e w7 ⟨rfl, hb7⟩; have hb67 := undrewC hb7; have hc7 := fun (y0 y1 : Value) => set2C (y0 := y0) (y1 := y1) (heap_alloc_new w7 (.cells #[.int .i64 0, .int .u64 0] 45)); obtain ⟨hq0, hq1, hf0, hf1⟩ := (hc7 (.bool true) (.bool true)).1) | (go_at_call 198; refine (KA (W.alloc _).drew).mono ?_; rintro e w7 ⟨rfl, hb7⟩; have hb67 := (below_c W _).trans ((undrewC hb7).mono (below_c W _).size); have hc7 := fun (y0 y1 : Value) => set2C (y0 := y0) (y1 := y1) ((heap_boxC hb7).trans (heap_alloc_new _ _)); obtain ⟨hq0, hq1, hf0, hf1⟩ := (hc7 (.bool true) (.bool true)).1))
    all_goals (go_wp2_with fail; go_meet)
    case _ => exact ⟨rfl, Lib.hid (box2_after hb67)⟩
    case _ => exact ⟨rfl, Lib.hid (box2_ahead ((heap_boxC hb7).trans (heap_alloc_new _ _)) hb67)⟩
  case rest =>
    obtain ⟨rfl, hcut⟩ := hcut
    obtain ⟨B, rfl, hB, hbx, hbl⟩ := hcut.out
    have hu := HU.out.below hbl
    have u2 := (hu.set 0 (.int .i64 x2)).set 1 (.int .u64 y2)
    have c0 : wc.cell? ⟨b, 0, none⟩ = some (.int .i64 x0) := (HS.out _ hbl).1
    have c1 : wc.cell? ⟨b, 1, none⟩ = some (.int .u64 y0) := (HS.out _ hbl).2.1
    have d0 : wc.cell? ⟨B, 0, none⟩ = some (.int .i64 x2) := by rw [cell_of_row _ _ _ _ _ _ hbx]; rfl
    have d1 : wc.cell? ⟨B, 1, none⟩ = some (.int .u64 y2) := by rw [cell_of_row _ _ _ _ _ _ hbx]; rfl
    have f0 := free_of_row hu.2 0
    have f1 := free_of_row hu.2 1
    have c2 : ((wc.setCell ⟨b, 0, none⟩ (.int .i64 x2)).setCell ⟨b, 1, none⟩ (.int .u64 y2)).cell? ⟨b, 2, none⟩ = some (.int .i64 (n : Int)) := by rw [cell_of_row _ _ _ _ _ _ u2.2]; rfl
    have f2 := free_of_row u2.2 2
    have FIN := Lib.hid (show Upd b (sumO (N + M) (n + m)) w _ from by have := u2.set 2 (.int .i64 ((n + m : Nat) : Int)); unfold sumO; rw [HFH.out, HFL.out]; exact this)
    have KP := HPP.out
    clear hu u2 hbx hB hcut HS HU hbl KA HFH HFL HPP
    go_wp2_with fail
    refine (KP _).mono ?_
    rintro e w8 ⟨rfl, rfl⟩
    clear KP
    go_wp2_with fail
    go_end0
    exact ⟨rfl, FIN.out⟩
theorem take_sum {w : World} {b n : Nat} {N : Int} (h : w.heap[b]? = some (sumO N n)) (hN : fitW N = true) (v : VV) (hv : -9223372036854775808 ≤ v.n ∧ v.n < 9223372036854775808) (hs : fitW (N + v.n) = true) (hn : n ≤ 1099511627776) (id : Int) :
    Calls Tryz.prog 196 #[.pointer (some ⟨b, 0, none⟩), v.val, .int .i64 id] w fun e w' => e = .returned (.tuple #[]) ∧ Upd b (sumO (N + v.n) (n + 1)) w w' := by
  have hb := below_c w (.cells #[.int .i64 v.k, .int .i64 v.n, .string v.s] 36)
  have hu := Upd.start h hb
  have KO := fun W => Wide.of_any v.n W hv.1 hv.2
  have HA := Lib.hid (fun (W : World) (hW : Upd b (sumO N n) w W) => add_sum hW.2 hN (M := v.n) (by rw [fit_iff]; omega) hs 1 (by omega))
  have HU := Lib.hid hu
  obtain ⟨vk, vn, vs⟩ := v
  simp only at KO HA HU ⊢
  obtain ⟨x, y, ex, ey⟩ : ∃ x y, hiW vn = x ∧ loW vn = y := ⟨_, _, rfl, rfl⟩
  unfold wv at KO HA
  rw [ex, ey] at KO HA
  rw [one_val]
  simp only
  clear h hb hu hn hN hs ex ey hv
  go_enter Tryz.func196, Tryz.ntmps196
  go_wp2_with fail
  refine (KO _).mono ?_
  rintro e w1 ⟨rfl, hb1⟩
  have hu1 := HU.out.below hb1
  have KA := HA.out _ hu1
  have HU1 := Lib.hid hu1
  clear hb1 hu1 HA HU KO
  go_wp2_with fail
  refine KA.mono ?_
  rintro e w2 ⟨rfl, hu2⟩
  have FIN := Lib.hid (HU1.out.trans hu2)
  clear hu2 KA HU1
  go_wp2_with fail
  go_end0
  exact ⟨rfl, FIN.out⟩
theorem ccopied_any (v : VV) (hv : v.s.size ≤ 1000000) (w : World) : Calls Tryz.prog 41 #[v.val] w fun e w' => e = .returned v.val ∧ Below w.heap.size w w' := by
  obtain ⟨k, n, s⟩ := v
  have KS := Lib.hid (fun W => strClone_any s hv W)
  have hb := (Below.refl w.heap.size w).alloc (Nat.le_refl _) (.cells #[.int .i64 k, .int .i64 n, .string s] 36)
  have hb2 := hb.alloc (by simp) (.cells #[.int .i64 0, .int .i64 0, .string ⟨#[]⟩] 36)
  rw [one_val]
  simp only
  have HB := Lib.hid hb2
  have HX : Hid (((w.alloc (.cells #[.int .i64 k, .int .i64 n, .string s] 36)).alloc (.cells #[.int .i64 0, .int .i64 0, .string ⟨#[]⟩] 36)).heap[w.heap.size]? = some (.cells #[.int .i64 k, .int .i64 n, .string s] 36 (0, 0)) ∧ ((w.alloc (.cells #[.int .i64 k, .int .i64 n, .string s] 36)).alloc (.cells #[.int .i64 0, .int .i64 0, .string ⟨#[]⟩] 36)).heap[w.heap.size + 1]? = some (.cells #[.int .i64 0, .int .i64 0, .string ⟨#[]⟩] 36 (0, 0))) := Lib.hid (by
    have hz : (w.alloc (.cells #[.int .i64 k, .int .i64 n, .string s] 36)).heap.size = w.heap.size + 1 := by simp
    have h2 := heap_alloc_new (w.alloc (.cells #[.int .i64 k, .int .i64 n, .string s] 36)) (.cells #[.int .i64 0, .int .i64 0, .string ⟨#[]⟩] 36)
    rw [hz] at h2
    exact ⟨((below_c (w.alloc _) _).block _ (by rw [hz]; omega)).trans (heap_alloc_new w _), h2⟩)
  clear hv hb hb2
  go_enter Tryz.func41, Tryz.ntmps41
  go_wp2_with fail
  refine (KS.out _).mono ?_
  rintro e w1 ⟨rfl, hb1⟩
  have hx1 := (hb1.block _ (lt_of_heap HX.out.1)).trans HX.out.1
  have hy1 := (hb1.block _ (lt_of_heap HX.out.2)).trans HX.out.2
  have HB1 := Lib.hid (HB.out.trans (hb1.mono HB.out.size))
  have hx2 := heap_set (j := 2) hx1 (.string s)
  have hy2 : (w1.setCell ⟨w.heap.size, 2, none⟩ (.string s)).heap[w.heap.size + 1]? = _ := (Below.heap_setCell _ ⟨w.heap.size, 2, none⟩ _ (w.heap.size + 1) (by simp)).trans hy1
  have hz2 := heap_set (j := 2) (heap_set (j := 1) (heap_set (j := 0) hy2 (.int .i64 k)) (.int .i64 n)) (.string s)
  have c0 : w1.cell? ⟨w.heap.size, 0, none⟩ = some (.int .i64 k) := by rw [cell_of_row _ _ _ _ _ _ hx1]; rfl
  have c1 : w1.cell? ⟨w.heap.size, 1, none⟩ = some (.int .i64 n) := by rw [cell_of_row _ _ _ _ _ _ hx1]; rfl
  have c2 : w1.cell? ⟨w.heap.size, 2, none⟩ = some (.string s) := by rw [cell_of_row _ _ _ _ _ _ hx1]; rfl
  have f2 := free_of_row hx1 2
  have e0 : (w1.setCell ⟨w.heap.size, 2, none⟩ (.string s)).cell? ⟨w.heap.size, 0, none⟩ = some (.int .i64 k) := by rw [cell_of_row _ _ _ _ _ _ hx2]; rfl
  have e1 : (w1.setCell ⟨w.heap.size, 2, none⟩ (.string s)).cell? ⟨w.heap.size, 1, none⟩ = some (.int .i64 n) := by rw [cell_of_row _ _ _ _ _ _ hx2]; rfl
  have e2 : (w1.setCell ⟨w.heap.size, 2, none⟩ (.string s)).cell? ⟨w.heap.size, 2, none⟩ = some (.string s) := by rw [cell_of_row _ _ _ _ _ _ hx2]; rfl
  have y0 : (w1.setCell ⟨w.heap.size, 2, none⟩ (.string s)).cell? ⟨w.heap.size + 1, 0, none⟩ = some (.int .i64 0) := by rw [cell_of_row _ _ _ _ _ _ hy2]; rfl
  have y1 : (w1.setCell ⟨w.heap.size, 2, none⟩ (.string s)).cell? ⟨w.heap.size + 1, 1, none⟩ = some (.int .i64 0) := by rw [cell_of_row _ _ _ _ _ _ hy2]; rfl
  have y2 : (w1.setCell ⟨w.heap.size, 2, none⟩ (.string s)).cell? ⟨w.heap.size + 1, 2, none⟩ = some (.string ⟨#[]⟩) := by rw [cell_of_row _ _ _ _ _ _ hy2]; rfl
  have g0 := free_of_row hy2 0
  have g1 := free_of_row hy2 1
  have g2 := free_of_row hy2 2
  have r0 : ((((w1.setCell ⟨w.heap.size, 2, none⟩ (.string s)).setCell ⟨w.heap.size + 1, 0, none⟩ (.int .i64 k)).setCell ⟨w.heap.size + 1, 1, none⟩ (.int .i64 n)).setCell ⟨w.heap.size + 1, 2, none⟩ (.string s)).cell? ⟨w.heap.size + 1, 0, none⟩ = some (.int .i64 k) := by rw [cell_of_row _ _ _ _ _ _ hz2]; rfl
  have r1 : ((((w1.setCell ⟨w.heap.size, 2, none⟩ (.string s)).setCell ⟨w.heap.size + 1, 0, none⟩ (.int .i64 k)).setCell ⟨w.heap.size + 1, 1, none⟩ (.int .i64 n)).setCell ⟨w.heap.size + 1, 2, none⟩ (.string s)).cell? ⟨w.heap.size + 1, 1, none⟩ = some (.int .i64 n) := by rw [cell_of_row _ _ _ _ _ _ hz2]; rfl
  have r2 : ((((w1.setCell ⟨w.heap.size, 2, none⟩ (.string s)).setCell ⟨w.heap.size + 1, 0, none⟩ (.int .i64 k)).setCell ⟨w.heap.size + 1, 1, none⟩ (.int .i64 n)).setCell ⟨w.heap.size + 1, 2, none⟩ (.string s)).cell? ⟨w.heap.size + 1, 2, none⟩ = some (.string s) := by rw [cell_of_row _ _ _ _ _ _ hz2]; rfl
  have FIN := Lib.hid ((((HB1.out.setCell (p := ⟨w.heap.size, 2, none⟩) (Nat.le_refl _) (.string s)).setCell (p := ⟨w.heap.size + 1, 0, none⟩) (Nat.le_succ _) (.int .i64 k)).setCell (p := ⟨w.heap.size + 1, 1, none⟩) (Nat.le_succ _) (.int .i64 n)).setCell (p := ⟨w.heap.size + 1, 2, none⟩) (Nat.le_succ _) (.string s))
  clear hb1 hx1 hy1 hx2 hy2 hz2 HB1 HB HX KS
  go_wp2_with fail
  refine bodyPost_ret (v := .agg #[.int .i64 k, .int .i64 n, .string s]) ?_ rfl ⟨rfl, FIN.out⟩
  simp [results, Tryz.results41, go_sem, r0, r1, r2]
end Go.Proofs.YtlhpbfjelgmkeaaGreat
