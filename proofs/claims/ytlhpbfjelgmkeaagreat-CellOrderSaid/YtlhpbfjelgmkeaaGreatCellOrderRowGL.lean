/- The texts CeoB CeoC CeoM CeoD ValsOf OwnKnob, one behind the other; each one's own comment says what it holds. -/
import Derived.Test.YtlhpbfjelgmkeaaGreatCellOrderRowGK
import Derived.Test.YtlhpbfjelgmkeaaGreatCellOrderRowGI
import Derived.Deep.CutBlock
import Derived.Deep.DeepCutAuto
import Derived.Test.YtlhpbfjelgmkeaaGreatCellOrderRowGA
import Derived.Test.YtlhpbfjelgmkeaaGreatGen
import Derived.ProofKit
import Derived.OpenShut
import Derived.ChangeOld
import Derived.ChangeSame
/- Three cells side by side, and Add of a value that is laid five times. Conditions: at most 300 values. -/
set_option maxRecDepth 100000
namespace Go.Proofs.YtlhpbfjelgmkeaaGreat
open Go.RowKit Go.Maps Go.Sort Go.Lib

theorem off_cell {i j q : Nat} {L : Lay} {C : Cv} (hl : C.st.length ≤ 16) (h : i + 100 ≤ j ∨ j + 100 ≤ i) {E : List (Nat × Thing)} (hE : tagsOff i E) : tagsOff i (cellE j q L C ++ E) := fun e he => by
  rcases List.mem_append.1 he with he | he
  · have := cell_tags hl e he
    omega
  · exact hE e he
theorem off_cons {i j : Nat} {A : Thing} (h : i + 100 ≤ j) {E : List (Nat × Thing)} (hE : tagsOff i E) : tagsOff i ((j, A) :: E) := fun e he => by
  rcases List.mem_cons.1 he with rfl | he
  · exact .inr h
  · exact hE e he
theorem off_nil (i : Nat) : tagsOff i [] := fun e he => by cases he
theorem CO.st16 {xs : List VV} {C : Cv} (h : CO xs C) : C.st.length ≤ 16 := by rw [h.kept.len]; decide
/-- a value more, laid five times -/
theorem co_lit {w0 w : World} {E : List (Nat × Thing)} {i q : Nat} {L : Lay} {C : Cv} {xs : List VV} (h : Side w0 (cellE i q L C ++ E) w) (hi : i ≤ 800) (hE : tagsOff i E) (hC : CO xs C) (hx : ∀ v ∈ xs, v.inI) (hxl : xs.length ≤ 300) {v : VV} (hv : v.inI) {d : Int} (hd : v.n.tmod 1000 = d) :
    Calls Tryz.prog 12 #[.pointer (some ⟨q, 0, none⟩), .slice (some ⟨w.heap.size, 0, none⟩) 5 5, .slice (some ⟨w.heap.size + 1, 0, none⟩) 5 5] ((w.alloc (fiveO v)).alloc (idsO d)) fun e w' => e = .returned (.int .i64 (if fitsV 1 v = true then 0 else 12)) ∧ Hid (∃ C', CO (xs ++ [v]) C' ∧ Side w0 (cellE i q L C' ++ E) w') := by
  have hz : (w.alloc (fiveO v)).heap.size = w.heap.size + 1 := by simp
  have S1 := (h.alloc 901 (fiveO v)).alloc 902 (idsO d)
  rw [hz] at S1
  have S2 := S1.sub (E' := cellE i q L C ++ ((902, Box (w.heap.size + 1) (idsO d)) :: (901, Box w.heap.size (fiveO v)) :: E)) (fun x hx => by
    simp only [List.mem_append, List.mem_cons] at hx ⊢
    rcases hx with hx | hx | hx | hx <;> simp [hx])
  subst hd
  refine (co_add S2 (off_cons (by omega) (off_cons (by omega) hE)) hC hx hxl hv (fun W hW => holds_five (hW.heap (i := 901) (List.mem_cons_of_mem _ (List.mem_cons_self ..)))) (fun W hW => holds_ids (hW.heap (i := 902) (List.mem_cons_self ..)))).mono ?_
  rintro e w' ⟨rfl, h2⟩
  obtain ⟨C', hC', S3⟩ := h2.out
  exact ⟨rfl, Lib.hid ⟨C', hC', S3.sub (fun x hx => by
    simp only [List.mem_append, List.mem_cons] at hx ⊢
    rcases hx with hx | hx <;> simp [hx])⟩⟩
/-- three cells side by side -/
def Trio (w0 : World) (q0 q1 q2 : Nat) (L0 L1 L2 : Lay) (x0 x1 x2 : List VV) (E : List (Nat × Thing)) (w : World) : Prop :=
  ∃ C0 C1 C2, CO x0 C0 ∧ CO x1 C1 ∧ CO x2 C2 ∧ Side w0 (cellE 0 q0 L0 C0 ++ (cellE 200 q1 L1 C1 ++ (cellE 400 q2 L2 C2 ++ E))) w
section
variable {w0 w : World} {q0 q1 q2 : Nat} {L0 L1 L2 : Lay} {x0 x1 x2 : List VV} {E : List (Nat × Thing)}
theorem Trio.below {w' : World} (h : Trio w0 q0 q1 q2 L0 L1 L2 x0 x1 x2 E w) (hb : Below w.heap.size w w') : Trio w0 q0 q1 q2 L0 L1 L2 x0 x1 x2 E w' := by
  obtain ⟨C0, C1, C2, h0, h1, h2, h⟩ := h
  exact ⟨C0, C1, C2, h0, h1, h2, h.below hb⟩
theorem Trio.box (h : Trio w0 q0 q1 q2 L0 L1 L2 x0 x1 x2 E w) (i : Nat) (ob : Obj) : Trio w0 q0 q1 q2 L0 L1 L2 x0 x1 x2 ((i, Box w.heap.size ob) :: E) (w.alloc ob) := by
  obtain ⟨C0, C1, C2, h0, h1, h2, h⟩ := h
  exact ⟨C0, C1, C2, h0, h1, h2, (h.alloc i ob).sub (fun x hx => by
    simp only [List.mem_append, List.mem_cons] at hx ⊢
    rcases hx with hx | hx | hx | hx | hx <;> simp [hx])⟩
theorem Trio.rest (h : Trio w0 q0 q1 q2 L0 L1 L2 x0 x1 x2 E w) : Side w0 E w := by
  obtain ⟨C0, C1, C2, h0, h1, h2, h⟩ := h
  exact h.sub (fun x hx => by simp [hx])
theorem Trio.less {E' : List (Nat × Thing)} (h : Trio w0 q0 q1 q2 L0 L1 L2 x0 x1 x2 E w) (hs : ∀ x ∈ E', x ∈ E) : Trio w0 q0 q1 q2 L0 L1 L2 x0 x1 x2 E' w := by
  obtain ⟨C0, C1, C2, h0, h1, h2, h⟩ := h
  exact ⟨C0, C1, C2, h0, h1, h2, h.sub (fun x hx => by
    simp only [List.mem_append] at hx ⊢
    rcases hx with hx | hx | hx | hx
    · simp [hx]
    · simp [hx]
    · simp [hx]
    · simp [hs _ hx])⟩
theorem Trio.two (h : Trio w0 q0 q1 q2 L0 L1 L2 x0 x1 x2 [] w) (o1 o2 : Obj) : Trio w0 q0 q1 q2 L0 L1 L2 x0 x1 x2 [(801, Box w.heap.size o1), (802, Box (w.heap.size + 1) o2)] ((w.alloc o1).alloc o2) := by
  have hz : (w.alloc o1).heap.size = w.heap.size + 1 := by simp
  have h2 := (h.box 801 o1).box 802 o2
  rw [hz] at h2
  exact h2.less (fun x hx => by simp only [List.mem_cons, List.not_mem_nil, or_false] at hx ⊢; rcases hx with hx | hx <;> simp [hx])
theorem Trio.owt (h : Trio w0 q0 q1 q2 L0 L1 L2 x0 x1 x2 [] w) (o1 o2 : Obj) : Trio w0 q0 q1 q2 L0 L1 L2 x0 x1 x2 [(801, Box (w.heap.size + 1) o1), (802, Box w.heap.size o2)] ((w.alloc o2).alloc o1) := by
  have hz : (w.alloc o2).heap.size = w.heap.size + 1 := by simp
  have h2 := (h.box 802 o2).box 801 o1
  rw [hz] at h2
  exact h2.less (fun x hx => by simp only [List.mem_cons, List.not_mem_nil, or_false] at hx ⊢; rcases hx with hx | hx <;> simp [hx])
variable (hE : ∀ e ∈ E, 500 ≤ e.1) {v : VV} (hv : v.inI) {d : Int} (hd : v.n.tmod 1000 = d)
include hE hv hd
theorem trio_add0 (h : Trio w0 q0 q1 q2 L0 L1 L2 x0 x1 x2 E w) (hx : ∀ v ∈ x0, v.inI) (hxl : x0.length ≤ 300) :
    Calls Tryz.prog 12 #[.pointer (some ⟨q0, 0, none⟩), .slice (some ⟨w.heap.size, 0, none⟩) 5 5, .slice (some ⟨w.heap.size + 1, 0, none⟩) 5 5] ((w.alloc (fiveO v)).alloc (idsO d)) fun e w' => e = .returned (.int .i64 (if fitsV 1 v = true then 0 else 12)) ∧ Hid (Trio w0 q0 q1 q2 L0 L1 L2 (x0 ++ [v]) x1 x2 E w') := by
  obtain ⟨C0, C1, C2, h0, h1, h2, h⟩ := h
  have S := h.sub (E' := cellE 0 q0 L0 C0 ++ (cellE 200 q1 L1 C1 ++ (cellE 400 q2 L2 C2 ++ E))) (fun x hx => by
    simp only [List.mem_append] at hx ⊢
    rcases hx with hx | hx | hx | hx <;> simp [hx])
  refine (co_lit S (by decide) (off_cell h1.st16 (by decide) (off_cell h2.st16 (by decide) (fun e he => .inr (by have := hE e he; omega)))) h0 hx hxl hv hd).mono ?_
  rintro e w' ⟨rfl, h3⟩
  obtain ⟨C', hC', S3⟩ := h3.out
  exact ⟨rfl, Lib.hid ⟨C', C1, C2, hC', h1, h2, S3.sub (fun x hx => by
    simp only [List.mem_append] at hx ⊢
    rcases hx with hx | hx | hx | hx <;> simp [hx])⟩⟩
theorem trio_add1 (h : Trio w0 q0 q1 q2 L0 L1 L2 x0 x1 x2 E w) (hx : ∀ v ∈ x1, v.inI) (hxl : x1.length ≤ 300) :
    Calls Tryz.prog 12 #[.pointer (some ⟨q1, 0, none⟩), .slice (some ⟨w.heap.size, 0, none⟩) 5 5, .slice (some ⟨w.heap.size + 1, 0, none⟩) 5 5] ((w.alloc (fiveO v)).alloc (idsO d)) fun e w' => e = .returned (.int .i64 (if fitsV 1 v = true then 0 else 12)) ∧ Hid (Trio w0 q0 q1 q2 L0 L1 L2 x0 (x1 ++ [v]) x2 E w') := by
  obtain ⟨C0, C1, C2, h0, h1, h2, h⟩ := h
  have S := h.sub (E' := cellE 200 q1 L1 C1 ++ (cellE 0 q0 L0 C0 ++ (cellE 400 q2 L2 C2 ++ E))) (fun x hx => by
    simp only [List.mem_append] at hx ⊢
    rcases hx with hx | hx | hx | hx <;> simp [hx])
  refine (co_lit S (by decide) (off_cell h0.st16 (by decide) (off_cell h2.st16 (by decide) (fun e he => .inr (by have := hE e he; omega)))) h1 hx hxl hv hd).mono ?_
  rintro e w' ⟨rfl, h3⟩
  obtain ⟨C', hC', S3⟩ := h3.out
  exact ⟨rfl, Lib.hid ⟨C0, C', C2, h0, hC', h2, S3.sub (fun x hx => by
    simp only [List.mem_append] at hx ⊢
    rcases hx with hx | hx | hx | hx <;> simp [hx])⟩⟩
theorem trio_add2 (h : Trio w0 q0 q1 q2 L0 L1 L2 x0 x1 x2 E w) (hx : ∀ v ∈ x2, v.inI) (hxl : x2.length ≤ 300) :
    Calls Tryz.prog 12 #[.pointer (some ⟨q2, 0, none⟩), .slice (some ⟨w.heap.size, 0, none⟩) 5 5, .slice (some ⟨w.heap.size + 1, 0, none⟩) 5 5] ((w.alloc (fiveO v)).alloc (idsO d)) fun e w' => e = .returned (.int .i64 (if fitsV 1 v = true then 0 else 12)) ∧ Hid (Trio w0 q0 q1 q2 L0 L1 L2 x0 x1 (x2 ++ [v]) E w') := by
  obtain ⟨C0, C1, C2, h0, h1, h2, h⟩ := h
  have S := h.sub (E' := cellE 400 q2 L2 C2 ++ (cellE 0 q0 L0 C0 ++ (cellE 200 q1 L1 C1 ++ E))) (fun x hx => by
    simp only [List.mem_append] at hx ⊢
    rcases hx with hx | hx | hx | hx <;> simp [hx])
  refine (co_lit S (by decide) (off_cell h0.st16 (by decide) (off_cell h1.st16 (by decide) (fun e he => .inr (by have := hE e he; omega)))) h2 hx hxl hv hd).mono ?_
  rintro e w' ⟨rfl, h3⟩
  obtain ⟨C', hC', S3⟩ := h3.out
  exact ⟨rfl, Lib.hid ⟨C0, C1, C', h0, h1, hC', S3.sub (fun x hx => by
    simp only [List.mem_append] at hx ⊢
    rcases hx with hx | hx | hx | hx <;> simp [hx])⟩⟩
end
end Go.Proofs.YtlhpbfjelgmkeaaGreat
/- New of five measures of whole numbers. Conditions: none. -/
set_option maxRecDepth 100000
namespace Go.Proofs.YtlhpbfjelgmkeaaGreat
open Go.RowKit Go.Maps Go.Sort Go.Lib

def m5O : Obj := .cells #[.int .i64 1, .string ⟨#[]⟩, .int .i64 2, .string ⟨#[]⟩, .int .i64 3, .string ⟨#[]⟩, .int .i64 4, .string ⟨#[]⟩, .int .i64 5, .string ⟨#[]⟩] 25 (0, 0)
def k5O : Obj := .cells #[.int .i64 1, .int .i64 1, .int .i64 1, .int .i64 1, .int .i64 1] 3 (0, 0)
theorem co_fresh {w0 w : World} {E : List (Nat × Thing)} (h : Side w0 E w) (i : Nat) (hE : tagsOff i E) {mb kb sb jm jk js : Nat} (hm : (jm, Box mb m5O) ∈ E) (hk : (jk, Box kb k5O) ∈ E) (hs : (js, Box sb seedO) ∈ E) :
    Calls Tryz.prog 9 #[.slice (some ⟨mb, 0, none⟩) 5 5, .slice (some ⟨kb, 0, none⟩) 5 5, setV 4 (some ⟨sb, 0, none⟩) 1 1 4 2] w fun e w' => ∃ q L C, e = .returned (.pointer (some ⟨q, 0, none⟩)) ∧ CO [] C ∧ Hid (Side w0 (cellE i q L C ++ E) w') := by
  refine (cnew_any h i hE (a1 := some ⟨mb, 0, none⟩) (a2 := some ⟨kb, 0, none⟩) (n1 := 5) (n2 := 5) (c1 := 5) (c2 := 5) (ms := ms5) (ks := [1, 1, 1, 1, 1]) (S := [(3, 1)])
    (fun W hW => holds2_heap rfl (hW.heap hm) rfl) (fun W hW => Holds.of_heap (hW.heap hk) rfl 5 5 rfl (Nat.le_refl _)) (fun W hW => set_box (hW.heap hs)) 4 4 2 (by decide) rfl (by decide) (fun j m k hm hk => ?_)).mono ?_
  · unfold ms5 at hm
    rcases j with _ | _ | _ | _ | _ | j
    · cases hm; cases hk; exact ⟨⟨⟨by decide, by decide⟩, .inl rfl⟩, by decide⟩
    · cases hm; cases hk; exact ⟨⟨⟨by decide, by decide⟩, .inr (.inl ⟨rfl, rfl⟩)⟩, by decide⟩
    · cases hm; cases hk; exact ⟨⟨⟨by decide, by decide⟩, .inr (.inr (.inl rfl))⟩, by decide⟩
    · cases hm; cases hk; exact ⟨⟨⟨by decide, by decide⟩, .inr (.inr (.inr (.inl rfl)))⟩, by decide⟩
    · cases hm; cases hk; exact ⟨⟨⟨by decide, by decide⟩, .inr (.inr (.inr (.inr rfl)))⟩, by decide⟩
    · simp at hk
  · rintro e w' ⟨q, L, C, rfl, hC, hS⟩
    exact ⟨q, L, C, rfl, co_new hC, hS⟩
theorem box_app {i : Nat} {A : Thing} {E F : List (Nat × Thing)} (h : (i, A) ∈ E) : (i, A) ∈ F ++ E := List.mem_append_right _ h
theorem box_cons {i j : Nat} {A B : Thing} {E : List (Nat × Thing)} (h : (i, A) ∈ E) : (i, A) ∈ (j, B) :: E := List.mem_cons_of_mem _ h
section
variable {l r : List VV} {n k m jn : Nat} {v u : VV}
theorem take_next (h : r[k]? = some v) : r.take k ++ [v] = r.take (k + 1) := by rw [List.take_add_one, h]; rfl
theorem rev_at (hl : l.length = n) (hk : k < n) (hj : n - 1 - k = jn) (hu : l[jn]? = some u) : l.reverse[k]? = some u := by
  rw [List.getElem?_reverse (by omega), hl, hj]
  exact hu
theorem lista_lt (hu : r[k]? = some u) (h : k < m) : r.take (min k m) ++ [u] = r.take (min (k + 1) m) := by
  rw [Nat.min_eq_left (by omega), Nat.min_eq_left (by omega)]
  exact take_next hu
theorem lista_ge (h : ¬ k < m) : r.take (min k m) = r.take (min (k + 1) m) := by
  rw [Nat.min_eq_right (by omega), Nat.min_eq_right (by omega)]
theorem listb_lt (h : k < m) : (r.take k).drop m = (r.take (k + 1)).drop m := by
  rw [List.drop_eq_nil_of_le (by rw [List.length_take]; omega), List.drop_eq_nil_of_le (by rw [List.length_take]; omega)]
theorem listb_ge (hu : r[k]? = some u) (h : ¬ k < m) : (r.take k).drop m ++ [u] = (r.take (k + 1)).drop m := by
  have := (List.getElem?_eq_some_iff.1 hu).1
  rw [← take_next hu, List.drop_append_of_le_length (by rw [List.length_take]; omega)]
theorem list_perm (l : List VV) (n m : Nat) (hl : l.length = n) : l.Perm ((l.reverse.take n).drop m ++ l.reverse.take (min n m)) := by
  have e1 : l.reverse.take n = l.reverse := List.take_of_length_le (by rw [List.length_reverse]; omega)
  have e2 : l.reverse.take (min n m) = l.reverse.take m := by
    rcases Nat.le_total n m with h | h
    · rw [Nat.min_eq_left h, e1, List.take_of_length_le (by rw [List.length_reverse]; omega)]
    · rw [Nat.min_eq_right h]
  rw [e1, e2]
  refine (List.reverse_perm l).symm.trans ?_
  have h1 : (l.reverse.take m ++ l.reverse.drop m).Perm (l.reverse.drop m ++ l.reverse.take m) := List.perm_append_comm
  rw [List.take_append_drop] at h1
  exact h1
theorem nums_perm {l r : List VV} (h : l.Perm r) : (nums l).Perm (nums r) := (h.filter _).map _
theorem fitN_perm {l r : List VV} (h : l.Perm r) : fitN l = fitN r := (h.filter _).length_eq
theorem nums_app (l r : List VV) : nums (l ++ r) = nums l ++ nums r := by unfold nums; rw [List.filter_append, List.map_append]
theorem fitN_app (l r : List VV) : fitN (l ++ r) = fitN l + fitN r := by unfold fitN; rw [List.filter_append, List.length_append]
end
theorem nofit_zero {n : Int} {s : ByteArray} (h : fitsV 1 ⟨0, n, s⟩ = false) : sameV 0 n s 0 0 ⟨#[]⟩ = false := by
  unfold fitsV VV.good goodV at h
  unfold sameV
  have e : (⟨#[]⟩ : ByteArray).toList = [] := by simp [Lib.toList_data]
  rw [e]
  simpa using h
theorem nofit_one {n : Int} {s : ByteArray} (h : fitsV 1 ⟨1, n, s⟩ = false) : (s.toList == []) = false := by
  unfold fitsV VV.good goodV at h
  simpa using h
end Go.Proofs.YtlhpbfjelgmkeaaGreat
/- What two cells of five measures tell alike, once one of them was merged. Conditions: the same values, in any order; at most 300. -/
set_option maxRecDepth 100000
namespace Go.Proofs.YtlhpbfjelgmkeaaGreat
open Go.RowKit Go.Maps Go.Sort Go.Lib
open Wide

theorem eql_wide (w : World) (a b : Int) : (binOp .eql 45 (.agg #[.int .i64 a, .int .u64 b]) (.agg #[.int .i64 a, .int .u64 b])).run Tryz.prog w = .ok (.bool true) w := by
  have hS : Tryz.prog.underlying 45 = some (.struct (Tryz.prog.fieldsOf 45)) := by kernel_rfl
  have hp : Tryz.prog.stoodInHeld 45 = false := by kernel_rfl
  have u3 := Tryz.underlying2
  have u7 := Tryz.underlying43
  rw [run_eql_struct, show (10000 : Nat) = 9999 + 1 from rfl, run_equalIn_agg w 9999 45 _ _ hS hp]
  simp only [Program.fieldsOf, Tryz.underlying45]
  go_simp
theorem guard_wide (w : World) (o : BinOp) (x y : Operand) (a b a' b' : Int) : (eqGuard o 45 x y (.agg #[.int .i64 a, .int .u64 b]) (.agg #[.int .i64 a', .int .u64 b'])).run Tryz.prog w = .ok () w :=
  run_eqGuard_agg w o _ x y _ _ (by kernel_rfl)
theorem same_self (v : VV) : sameV v.k v.n v.s v.k v.n v.s = true := by unfold sameV; simp
/-- a cell among the things, and what it tells -/
def Told (E : List (Nat × Thing)) (i q R n : Nat) (N : Int) (vl vh : VV) (V : SkV) : Prop :=
  ∃ L C b0 b1 b2 b3 b4 p, (∀ x ∈ cellE i q L C, x ∈ E) ∧ C.t = 4 ∧ C.rows = R ∧ C.st = [(b0, .cnt n), (b1, .sum N n), (b2, .low vl), (b3, .high vh), (b4, .dis p V)] ∧ vl.fine ∧ vh.fine
section
variable {w0 w : World} {E : List (Nat × Thing)} {i q R n : Nat} {N : Int} {vl vh : VV} {V : SkV}
theorem told_rows (h : Told E i q R n N vl vh V) (S : Side w0 E w) : Calls Tryz.prog 14 #[.pointer (some ⟨q, 0, none⟩)] w fun e w' => e = .returned (.int .i64 (R : Int)) ∧ w = w' := by
  obtain ⟨L, C, b0, b1, b2, b3, b4, p, hx, ht, hr, hst, _⟩ := h
  have := crows_at (S.heapO (hx (i, OBox q (celO L C)) (by unfold cellE; simp))) (by rw [ht]; decide)
  rw [hr] at this
  exact this
theorem told_count (h : Told E i q R n N vl vh V) (S : Side w0 E w) : Calls Tryz.prog 15 #[.pointer (some ⟨q, 0, none⟩), .int .i64 0] w fun e w' => e = .returned (.tuple #[.int .i64 (n : Int), .bool true]) ∧ w = w' := by
  obtain ⟨L, C, b0, b1, b2, b3, b4, p, hx, ht, hr, hst, _⟩ := h
  exact ccount_at S (hx (i, OBox q (celO L C)) (by unfold cellE; simp)) (hx (i + 2, RowT 97 1 L.sv C.st.length (vals C.st)) (by unfold cellE; simp)) (by rw [ht]; decide) (m := 0) (b := b0) (by rw [hst]; rfl) (hx (i + 5, OBox b0 (cntO n)) (by unfold cellE; rw [hst]; simp [stE, StT]))
theorem told_sum (h : Told E i q R n N vl vh V) (S : Side w0 E w) : Calls Tryz.prog 16 #[.pointer (some ⟨q, 0, none⟩), .int .i64 1] w fun e w' => e = .returned (.tuple #[wv N, .int .i64 (n : Int), .bool true]) ∧ Below w.heap.size w w' := by
  obtain ⟨L, C, b0, b1, b2, b3, b4, p, hx, ht, hr, hst, _⟩ := h
  exact csum_at S (hx (i, OBox q (celO L C)) (by unfold cellE; simp)) (hx (i + 2, RowT 97 1 L.sv C.st.length (vals C.st)) (by unfold cellE; simp)) (by rw [ht]; decide) (m := 1) (b := b1) (by rw [hst]; rfl) (hx (i + 5 + 1, OBox b1 (sumO N n)) (by unfold cellE; rw [hst]; simp [stE, StT]))
theorem told_least (h : Told E i q R n N vl vh V) (S : Side w0 E w) : Calls Tryz.prog 17 #[.pointer (some ⟨q, 0, none⟩), .int .i64 2] w fun e w' => e = .returned (.tuple #[vl.val, .bool true]) ∧ Below w.heap.size w w' := by
  obtain ⟨L, C, b0, b1, b2, b3, b4, p, hx, ht, hr, hst, hl, _⟩ := h
  exact cleast_at S (hx (i, OBox q (celO L C)) (by unfold cellE; simp)) (hx (i + 2, RowT 97 1 L.sv C.st.length (vals C.st)) (by unfold cellE; simp)) (by rw [ht]; decide) (m := 2) (b := b2) (by rw [hst]; rfl) (hx (i + 5 + 1 + 1, OBox b2 (lowO vl)) (by unfold cellE; rw [hst]; simp [stE, StT])) hl
theorem told_greatest (h : Told E i q R n N vl vh V) (S : Side w0 E w) : Calls Tryz.prog 18 #[.pointer (some ⟨q, 0, none⟩), .int .i64 3] w fun e w' => e = .returned (.tuple #[vh.val, .bool true]) ∧ Below w.heap.size w w' := by
  obtain ⟨L, C, b0, b1, b2, b3, b4, p, hx, ht, hr, hst, _, hh⟩ := h
  exact cgreatest_at S (hx (i, OBox q (celO L C)) (by unfold cellE; simp)) (hx (i + 2, RowT 97 1 L.sv C.st.length (vals C.st)) (by unfold cellE; simp)) (by rw [ht]; decide) (m := 3) (b := b3) (by rw [hst]; rfl) (hx (i + 5 + 1 + 1 + 1, OBox b3 (highO vh)) (by unfold cellE; rw [hst]; simp [stE, StT])) hh
theorem told_distinct (h : Told E i q R n N vl vh V) (S : Side w0 E w) : Calls Tryz.prog 19 #[.pointer (some ⟨q, 0, none⟩), .int .i64 4] w fun e w' => e = .returned (.tuple #[.int .i64 (midOf V.answers), .bool true]) ∧ Below w.heap.size w w' := by
  obtain ⟨L, C, b0, b1, b2, b3, b4, p, hx, ht, hr, hst, _⟩ := h
  exact cdistinct_at S (hx (i, OBox q (celO L C)) (by unfold cellE; simp)) (hx (i + 2, RowT 97 1 L.sv C.st.length (vals C.st)) (by unfold cellE; simp)) (by rw [ht]; decide) (m := 4) (b := b4) (by rw [hst]; rfl) (hx (i + 5 + 1 + 1 + 1 + 1, DisT b4 p V) (by unfold cellE; rw [hst]; simp [stE, StT]))
end
theorem Merged.alike5 {l m : List Int} {st st' : List (Nat × Sv)} (h : Kept5 l st) (g : Kept5 m st') : ∀ (j : Nat) s s', st[j]? = some s → st'[j]? = some s' → alikeS s.2 s'.2 := by
  obtain ⟨b0, b1, b2, b3, b4, p, vl, vh, V, rfl, _, _, hV⟩ := h
  obtain ⟨c0, c1, c2, c3, c4, q, ul, uh, U, rfl, _, _, hU⟩ := g
  intro j s s' h1 h2
  rcases j with _ | _ | _ | _ | _ | j
  · cases h1; cases h2; trivial
  · cases h1; cases h2; trivial
  · cases h1; cases h2; trivial
  · cases h1; cases h2; trivial
  · cases h1; cases h2; exact ⟨hU.ht.trans hV.ht.symm, hU.hs.trans hV.hs.symm⟩
  · simp at h1
theorem co_merge {w0 w : World} {q0 q1 q2 : Nat} {L0 L1 L2 : Lay} {C0 C1 C2 : Cv} {l l1 l2 : List VV} (S : Side w0 (cellE 0 q0 L0 C0 ++ (cellE 200 q1 L1 C1 ++ (cellE 400 q2 L2 C2 ++ []))) w) (h0 : CO l C0) (h1 : CO l1 C1) (h2 : CO l2 C2) (hp : l.Perm (l2 ++ l1)) (hx : ∀ v ∈ l, v.inI) (hx1 : ∀ v ∈ l1, v.inI) (hx2 : ∀ v ∈ l2, v.inI) (hn : l.length ≤ 300) :
    Calls Tryz.prog 13 #[.pointer (some ⟨q2, 0, none⟩), .pointer (some ⟨q1, 0, none⟩)] w fun e w' => e = .returned (.int .i64 0) ∧ ∃ E R n N vl vh V, Hid (Told E 0 q0 R n N vl vh V) ∧ Hid (Told E 400 q2 R n N vl vh V) ∧ Hid (Side w0 E w') := by
  have hlen := hp.length_eq
  rw [List.length_append] at hlen
  have S2 := S.sub (E' := cellE 400 q2 L2 C2 ++ (cellE 200 q1 L1 C1 ++ cellE 0 q0 L0 C0)) (fun x hx => by
    simp only [List.mem_append] at hx ⊢
    rcases hx with hx | hx | hx <;> simp [hx])
  have f1 := fitN_le l1
  have f2 := fitN_le l2
  refine (cmerge_two (n := 5) (m1 := 300) (m2 := 300) S2 (fun e he => by
    have := cell_tags h0.st16 e he
    omega) (by omega) (by rw [h1.ms, h2.ms]) (by rw [h1.ks, h2.ks]) (by rw [h1.t, h2.t]) (by rw [h1.S, h2.S]) (by rw [h1.K, h2.K]) (by rw [h1.M, h2.M]) (by rw [h2.ms]; decide) (by rw [h2.ks]; decide) (by rw [h2.S]; decide) (by decide) h2.kept.len h1.kept.len (by rw [h2.t]; decide) (by rw [h2.rows]; omega) (by rw [h1.rows]; omega) (by decide)
    (Merged.alike5 h2.kept h1.kept) (h2.kept.small (nums_in hx2) (by have := nums_le l2; omega)) (h1.kept.small (nums_in hx1) (by have := nums_le l1; omega))).mono ?_
  rintro e w' ⟨rfl, st', hm, _, S3⟩
  have hk := h2.kept.merge h1.kept hm
  have hpn := nums_perm hp
  rw [nums_app] at hpn
  obtain ⟨b0, b1, b2, b3, b4, p, c0, c1, c2, c3, c4, q, n, N, vl, vh, V, e0, e1⟩ := h0.kept.alike hk hpn
  have hfl : vl.fine ∧ vh.fine := by
    have h3 := h0.kept
    rw [e0] at h3
    obtain ⟨_, _, _, _, _, _, ul, uh, _, he, g1, g2, _⟩ := h3
    simp only [List.cons.injEq, Prod.mk.injEq, Sv.low.injEq, Sv.high.injEq, and_true] at he
    obtain ⟨_, _, ⟨_, rfl⟩, ⟨_, rfl⟩, _⟩ := he
    exact ⟨g1.fine (nums_in hx), g2.fine (nums_in hx)⟩
  refine ⟨rfl, _, fitN l, n, N, vl, vh, V, Lib.hid ⟨L0, C0, b0, b1, b2, b3, b4, p, fun x hx => ?_, h0.t, h0.rows, e0, hfl.1, hfl.2⟩, Lib.hid ⟨L2, mrgC C2 C1 st', c0, c1, c2, c3, c4, q, fun x hx => ?_, h2.t, ?_, e1, hfl.1, hfl.2⟩, S3⟩
  · simp only [List.mem_append]; exact .inr (.inr hx)
  · exact List.mem_append_left _ hx
  · show C2.rows + C1.rows = _
    rw [h1.rows, h2.rows, fitN_perm hp, fitN_app]
end Go.Proofs.YtlhpbfjelgmkeaaGreat
/- CellOrder, walked: rows, counts, sums, leasts, greatests and estimates do not look at the order, nor at merges. Conditions: none. -/
set_option maxRecDepth 100000
namespace Go.Proofs.YtlhpbfjelgmkeaaGreat
open Go.RowKit Go.Maps Go.Sort Go.Lib
open Wide

set_option maxHeartbeats 25600000 in
theorem order_walk {w : World} {a : Option Addr} {n c : Nat} {l : List VV} (hv : HoldsV w (.slice a n c) l) (hl : l.length = n) (hin : ∀ x ∈ l, x.inI) (cut : Nat) (hcut : cut < 18446744073709551616) :
    Calls Tryz.prog 3 #[.slice a n c, .int .u64 (cut : Int)] w fun e w' => e = .returned (.bool true) ∧ Below w.heap.size w w' := by
  have hz1 : (w.alloc m5O).heap.size = w.heap.size + 1 := by simp
  have S0 := ((Side.nil w).alloc 801 m5O).alloc 802 k5O
  rw [hz1] at S0
  have KS := set_any S0 803
  have HV := Lib.hid (fun (W : World) (hW : Below w.heap.size w W) => hv.below hW)
  have HL := Lib.hid hl
  have HIN := Lib.hid hin
  have HC := Lib.hid hcut
  clear S0 hz1 hv hl hin hcut
  go_enter Tryz.func3, Tryz.ntmps3
  go_wp2_with fail
  refine KS.mono ?_
  rintro e w1 ⟨b1, rfl, S1⟩
  have KN := co_fresh S1.out 0 (off_cons (by decide) (off_cons (by decide) (off_cons (by decide) (off_nil _)))) (mb := w.heap.size) (kb := w.heap.size + 1) (sb := b1) (jm := 801) (jk := 802) (js := 803) (by simp) (by simp) (by simp)
  clear KS S1
  go_wp2_with fail
  refine KN.mono ?_
  rintro e w2 ⟨q0, L0, C0, rfl, h0, S2⟩
  have KS := set_any S2.out 804
  clear KN
  go_wp2_with fail
  refine KS.mono ?_
  rintro e w3 ⟨b2, rfl, S3⟩
  have KN := co_fresh S3.out 200 (off_cons (by decide) (off_cell h0.st16 (by decide) (off_cons (by decide) (off_cons (by decide) (off_cons (by decide) (off_nil _)))))) (mb := w.heap.size) (kb := w.heap.size + 1) (sb := b2) (jm := 801) (jk := 802) (js := 804) (by simp) (by simp) (by simp)
  clear KS S3 S2
  go_wp2_with fail
  refine KN.mono ?_
  rintro e w4 ⟨q1, L1, C1, rfl, h1, S4⟩
  have KS := set_any S4.out 805
  clear KN
  go_wp2_with fail
  refine KS.mono ?_
  rintro e w5 ⟨b3, rfl, S5⟩
  have KN := co_fresh S5.out 400 (off_cons (by decide) (off_cell h1.st16 (by decide) (off_cons (by decide) (off_cell h0.st16 (by decide) (off_cons (by decide) (off_cons (by decide) (off_cons (by decide) (off_nil _)))))))) (mb := w.heap.size) (kb := w.heap.size + 1) (sb := b3) (jm := 801) (jk := 802) (js := 805) (by simp) (by simp) (by simp)
  clear KS S5 S4
  go_wp2_with fail
  refine KN.mono ?_
  rintro e w6 ⟨q2, L2, C2, rfl, h2, S6⟩
  have T0 : Hid (Trio w q0 q1 q2 L0 L1 L2 [] [] [] [] w6) := Lib.hid ⟨C0, C1, C2, h0, h1, h2, S6.out.sub (fun x hx => by
    simp only [List.mem_append, List.mem_cons, List.not_mem_nil, or_false] at hx ⊢
    rcases hx with hx | hx | hx <;> simp [hx])⟩
  clear KN S6 h0 h1 h2
  by_cases h300 : 300 < n
  · have t0 : (300 : Int) < (n : Int) := by omega
    have KL := clives_any w6
    have FI := Lib.hid (T0.out.rest.base)
    clear T0 h300
    go_wp2_with fail
    refine KL.mono ?_
    rintro e w7 ⟨rfl, hb7⟩
    have F2 := FI.out.trans (hb7.mono FI.out.size)
    clear hb7 KL FI
    go_wp2_with fail
    go_ret
    exact ⟨rfl, F2⟩
  have t0 : ¬ (300 : Int) < (n : Int) := by omega
  obtain ⟨m, hm⟩ : ∃ m, cut % (n + 1) = m := ⟨_, rfl⟩
  have hmn : m ≤ n := by rw [← hm]; have := Nat.mod_lt cut (show 0 < n + 1 by omega); omega
  have hw1 : IntKind.i64.wrap ((n : Int) + 1) = (n : Int) + 1 := by rw [IntKind.wrap_i64]; omega
  have hw2 : IntKind.u64.wrap ((n : Int) + 1) = (n : Int) + 1 := by rw [IntKind.wrap_u64]; omega
  have hrem : (cut : Int).tmod ((n : Int) + 1) = (m : Int) := by
    rw [show ((n : Int) + 1) = ((n + 1 : Nat) : Int) by omega, ← hm]
    exact (Int.ofNat_tmod cut (n + 1)).symm
  have hw3 : IntKind.i64.wrap (m : Int) = (m : Int) := by rw [IntKind.wrap_i64]; omega
  have hw4 : IntKind.u64.wrap (m : Int) = (m : Int) := by rw [IntKind.wrap_u64]; omega
  have hnz : ¬ ((n : Int) + 1 = 0) := by omega
  have HMN := Lib.hid hmn
  have H300 := Lib.hid (show n ≤ 300 by omega)
  clear h300 hm hmn
  go_wp2_with fail
  clear hw1 hw2 hrem hw3 hw4 hnz t0
  go_loopw [95] (fun s95 wr => ∃ k : Nat, s95 = .int .i64 k ∧ k ≤ n ∧ Hid (Trio w q0 q1 q2 L0 L1 L2 (l.take k) (l.reverse.take (min k m)) ((l.reverse.take k).drop m) [] wr)) (fun s95 _ => n - (RowKit.intOf s95).toNat)
  case atStart => exact ⟨0, rfl, by omega, by simpa using T0⟩
  case round =>
    clear T0
    obtain ⟨k, rfl, hk, HR⟩ := hrel
    by_cases hlt : k < n
    · obtain ⟨⟨vk, vn, vs⟩, hvk⟩ : ∃ v, l[k]? = some v := ⟨_, List.getElem?_eq_getElem (by rw [HL.out]; exact hlt)⟩
      obtain ⟨jn, hj⟩ : ∃ jn, n - 1 - k = jn := ⟨_, rfl⟩
      have hjn : jn < n := by omega
      obtain ⟨⟨uk, un, us⟩, huk⟩ : ∃ v, l[jn]? = some v := ⟨_, List.getElem?_eq_getElem (by rw [HL.out]; exact hjn)⟩
      have hHV := HV.out wr HR.out.rest.base
      obtain ⟨ad, ha, v0, v1, v2⟩ := hHV.at_ hvk
      obtain ⟨ad', ha', u0, u1, u2⟩ := hHV.at_ huk
      rcases ha with rfl
      obtain rfl := Option.some.inj ha'
      simp only at v0 v1 v2 u0 u1 u2
      have l0 : (0 : Int) ≤ (k : Int) := Int.natCast_nonneg k
      have l1 : (k : Int) < (n : Int) := Int.ofNat_lt.2 hlt
      have j0 : (0 : Int) ≤ (jn : Int) := Int.natCast_nonneg jn
      have j1 : (jn : Int) < (n : Int) := Int.ofNat_lt.2 hjn
      have ws1 : IntKind.i64.wrap ((n : Int) - 1) = (n : Int) - 1 := by rw [IntKind.wrap_i64]; have := H300.out; omega
      have ws2 : IntKind.i64.wrap ((n : Int) - 1 - (k : Int)) = (jn : Int) := by rw [IntKind.wrap_i64]; have := H300.out; omega
      have hwk : IntKind.i64.wrap ((k : Int) + 1) = (k : Int) + 1 := by rw [IntKind.wrap_i64]; have := H300.out; omega
      have HLT := Lib.hid hlt
      have HVK := Lib.hid hvk
      have HUK := Lib.hid huk
      have HJ := Lib.hid hj
      have k1 := (fun (V : World) (hV : Below wr.heap.size wr V) => (show V.cell? (ad.add (k * 3)) = some (.int .i64 vk) ∧ V.cell? ⟨(ad.add (k * 3)).block, (ad.add (k * 3)).off + 1, none⟩ = some (.int .i64 vn) ∧ V.cell? ⟨(ad.add (k * 3)).block, (ad.add (k * 3)).off + 2, none⟩ = some (.string vs) ∧ V.cell? (ad.add (jn * 3)) = some (.int .i64 uk) ∧ V.cell? ⟨(ad.add (jn * 3)).block, (ad.add (jn * 3)).off + 1, none⟩ = some (.int .i64 un) ∧ V.cell? ⟨(ad.add (jn * 3)).block, (ad.add (jn * 3)).off + 2, none⟩ = some (.string us) from
        ⟨by rw [hV.cell (World.block_lt_of_cell? wr _ v0)]; exact v0, by rw [hV.cell (World.block_lt_of_cell? wr _ v1)]; exact v1, by rw [hV.cell (World.block_lt_of_cell? wr _ v2)]; exact v2, by rw [hV.cell (World.block_lt_of_cell? wr _ u0)]; exact u0, by rw [hV.cell (World.block_lt_of_cell? wr _ u1)]; exact u1, by rw [hV.cell (World.block_lt_of_cell? wr _ u2)]; exact u2⟩))
      have k2 := fun (o : Obj) => k1 (wr.alloc o) (below_c wr o)
      have k3 := fun (o o' : Obj) => k1 ((wr.alloc o).alloc o') ((below_c wr o).trans ((below_c (wr.alloc o) o').mono (below_c wr o).size))
      have p0 := fun o => (k2 o).1
      have p1 := fun o => (k2 o).2.1
      have p2 := fun o => (k2 o).2.2.1
      have p3 := fun o => (k2 o).2.2.2.1
      have p4 := fun o => (k2 o).2.2.2.2.1
      have p5 := fun o => (k2 o).2.2.2.2.2
      have r0 := fun o o' => (k3 o o').1
      have r1 := fun o o' => (k3 o o').2.1
      have r2 := fun o o' => (k3 o o').2.2.1
      have r3 := fun o o' => (k3 o o').2.2.2.1
      have r4 := fun o o' => (k3 o o').2.2.2.2.1
      have r5 := fun o o' => (k3 o o').2.2.2.2.2
      clear hHV hvk huk hj hjn hk ha' k1 k2 k3
      go_upto_region 10 with (fail)
      go_cut [12, 13] from 98 to 109 (fun u12 u13 wx => Hid (∃ B1 B2, u12 = .pointer (some ⟨B1, 0, none⟩) ∧ u13 = .pointer (some ⟨B2, 0, none⟩) ∧ Trio w q0 q1 q2 L0 L1 L2 (l.take k) (l.reverse.take (min k m)) ((l.reverse.take k).drop m) [(801, Box B1 (valO ⟨vk, vn, vs⟩)), (802, Box B2 (valO ⟨uk, un, us⟩))] wx))
      case first =>
        go_region
        all_goals (go_wp2_with fail; go_meet)
        · exact Lib.hid ⟨_, _, rfl, rfl, (HR.out.two _ _).below (below_drew1 _)⟩
        · exact Lib.hid ⟨_, _, rfl, rfl, (HR.out.owt _ _).below (below_drew1 _)⟩
      case rest =>
        obtain ⟨B1, B2, rfl, rfl, T1⟩ := hcut.out
        have T1 := Lib.hid T1
        have z1 := T1.out.rest.heap (i := 801) (b := B1) (ob := valO ⟨vk, vn, vs⟩) (by simp)
        have z2 := T1.out.rest.heap (i := 802) (b := B2) (ob := valO ⟨uk, un, us⟩) (by simp)
        have x1 : wc.cell? ⟨B1, 1, none⟩ = some (.int .i64 vn) := by rw [cell_of_row _ _ _ _ _ _ z1]; rfl
        have y1 : wc.cell? ⟨B2, 1, none⟩ = some (.int .i64 un) := by rw [cell_of_row _ _ _ _ _ _ z2]; rfl
        obtain ⟨d1, hd1⟩ : ∃ d, vn.tmod 1000 = d := ⟨_, rfl⟩
        obtain ⟨d2, hd2⟩ : ∃ d, un.tmod 1000 = d := ⟨_, rfl⟩
        have HD1 := Lib.hid hd1
        have HD2 := Lib.hid hd2
        clear hcut z1 z2 HR
        go_upto_region 11 with (fail)
        go_quiet (fail)
        obtain ⟨W, hW⟩ : ∃ W, wc.drewN nq = W := ⟨_, rfl⟩
        have T2 := Lib.hid (T1.out.below (below_drewN wc nq))
        rw [hW] at T2 ⊢
        clear hW T1 x1 y1 hd1 hd2
        obtain ⟨fb, hfb⟩ : ∃ fb, fitsV 1 ⟨vk, vn, vs⟩ = fb := ⟨_, rfl⟩
        obtain ⟨rr, hrr⟩ : ∃ rr : Int, (if fb = true then 0 else 12) = rr := ⟨_, rfl⟩
        have KA := trio_add0 (fun e he => by
          simp only [List.mem_cons, List.not_mem_nil, or_false] at he
          rcases he with rfl | rfl <;> (dsimp only; omega)) (v := ⟨vk, vn, vs⟩) (HIN.out _ (List.mem_of_getElem? HVK.out)) HD1.out T2.out (fun v hv => HIN.out v (List.mem_of_mem_take hv)) (by rw [List.length_take]; have := H300.out; have := HLT.out; omega)
        rw [hfb, hrr, take_next HVK.out] at KA
        have HFB := Lib.hid hfb
        have HRR := Lib.hid hrr
        have x0 : W.cell? ⟨B1, 0, none⟩ = some (.int .i64 vk) := by rw [cell_of_row _ _ _ _ _ _ (T2.out.rest.heap (i := 801) (b := B1) (ob := valO ⟨vk, vn, vs⟩) (by simp))]; rfl
        have x1 : W.cell? ⟨B1, 1, none⟩ = some (.int .i64 vn) := by rw [cell_of_row _ _ _ _ _ _ (T2.out.rest.heap (i := 801) (b := B1) (ob := valO ⟨vk, vn, vs⟩) (by simp))]; rfl
        have x2 : W.cell? ⟨B1, 2, none⟩ = some (.string vs) := by rw [cell_of_row _ _ _ _ _ _ (T2.out.rest.heap (i := 801) (b := B1) (ob := valO ⟨vk, vn, vs⟩) (by simp))]; rfl
        unfold fiveO idsO at KA
        simp only at KA
        clear hfb hrr T2
        go_wp2_with fail
        refine KA.mono ?_
        rintro e w8 ⟨rfl, T3⟩
        clear KA x0 x1 x2
        have y0 : w8.cell? ⟨B2, 0, none⟩ = some (.int .i64 uk) := by rw [cell_of_row _ _ _ _ _ _ (T3.out.rest.heap (i := 802) (b := B2) (ob := valO ⟨uk, un, us⟩) (by simp))]; rfl
        have y1 : w8.cell? ⟨B2, 1, none⟩ = some (.int .i64 un) := by rw [cell_of_row _ _ _ _ _ _ (T3.out.rest.heap (i := 802) (b := B2) (ob := valO ⟨uk, un, us⟩) (by simp))]; rfl
        have y2 : w8.cell? ⟨B2, 2, none⟩ = some (.string us) := by rw [cell_of_row _ _ _ _ _ _ (T3.out.rest.heap (i := 802) (b := B2) (ob := valO ⟨uk, un, us⟩) (by simp))]; rfl
        by_cases hkm : k < m
        · have HKM := Lib.hid hkm
          have KA := trio_add1 (fun e he => by
            simp only [List.mem_cons, List.not_mem_nil, or_false] at he
            rcases he with rfl | rfl <;> (dsimp only; omega)) (v := ⟨uk, un, us⟩) (HIN.out _ (List.mem_of_getElem? HUK.out)) HD2.out T3.out (fun v hv => HIN.out v (List.mem_reverse.1 (List.mem_of_mem_take hv))) (by rw [List.length_take]; have := H300.out; have := HLT.out; omega)
          rw [lista_lt (rev_at HL.out HLT.out HJ.out HUK.out) HKM.out, listb_lt HKM.out] at KA
          obtain ⟨r2, hr2⟩ : ∃ rr : Int, (if fitsV 1 ⟨uk, un, us⟩ = true then 0 else 12) = rr := ⟨_, rfl⟩
          rw [hr2] at KA
          unfold fiveO idsO at KA
          simp only at KA
          clear T3 hr2
          go_wp2_with fail
          refine KA.mono ?_
          rintro e w9 ⟨rfl, T4⟩
          clear KA y0 y1 y2 hkm
          have x0 : w9.cell? ⟨B1, 0, none⟩ = some (.int .i64 vk) := by rw [cell_of_row _ _ _ _ _ _ (T4.out.rest.heap (i := 801) (b := B1) (ob := valO ⟨vk, vn, vs⟩) (by simp))]; rfl
          have x1 : w9.cell? ⟨B1, 1, none⟩ = some (.int .i64 vn) := by rw [cell_of_row _ _ _ _ _ _ (T4.out.rest.heap (i := 801) (b := B1) (ob := valO ⟨vk, vn, vs⟩) (by simp))]; rfl
          have x2 : w9.cell? ⟨B1, 2, none⟩ = some (.string vs) := by rw [cell_of_row _ _ _ _ _ _ (T4.out.rest.heap (i := 801) (b := B1) (ob := valO ⟨vk, vn, vs⟩) (by simp))]; rfl
          have T5 := Lib.hid (T4.out.less (E' := []) (fun x hx => by cases hx))
          have EQ := fun W => eql_val W vk vn vs 0 0 ⟨#[]⟩
          have EU := fun W x y => guard_val W .eql x y vk vn vs 0 0 ⟨#[]⟩
          unfold vv at EQ EU
          clear T4
          cases fb
          · have hrr := HRR.out
            rw [if_neg (by simp)] at hrr
            subst hrr
            by_cases h0 : vk = 0
            · subst h0
              have hs0 := nofit_zero HFB.out
              rw [hs0] at EQ
              clear hs0
              go_wp2_with fail
              go_roundw
              case rel => exact ⟨k + 1, by go_num, by have := HLT.out; omega, T5⟩
              case measure => have := HLT.out; simp [RowKit.intOf]; omega
            by_cases h1 : vk = 1
            · subst h1
              have hs0 := nofit_one HFB.out
              clear EQ EU h0
              go_wp2_with fail
              go_roundw
              case rel => exact ⟨k + 1, by go_num, by have := HLT.out; omega, T5⟩
              case measure => have := HLT.out; simp [RowKit.intOf]; omega
            · have e0 : (vk == 0) = false := by simpa using h0
              have e1 : (vk == 1) = false := by simpa using h1
              clear EQ EU h0 h1
              go_wp2_with fail
              go_roundw
              case rel => exact ⟨k + 1, by go_num, by have := HLT.out; omega, T5⟩
              case measure => have := HLT.out; simp [RowKit.intOf]; omega
          · have hrr := HRR.out
            rw [if_pos rfl] at hrr
            subst hrr
            rcases fits_num HFB.out with e | e
            · obtain ⟨rfl, rfl, rfl⟩ : vk = 0 ∧ vn = 0 ∧ vs = ⟨#[]⟩ := by
                unfold VV.none_ at e
                injection e with a b c
                exact ⟨a, b, c⟩
              rw [show sameV 0 0 ⟨#[]⟩ 0 0 ⟨#[]⟩ = true from by kernel_rfl] at EQ
              clear e
              go_wp2_with fail
              go_roundw
              case rel => exact ⟨k + 1, by go_num, by have := HLT.out; omega, T5⟩
              case measure => have := HLT.out; simp [RowKit.intOf]; omega
            · obtain ⟨rfl, rfl⟩ : vk = 1 ∧ vs = ⟨#[]⟩ := by
                unfold intV at e
                injection e with a b c
                exact ⟨a, c⟩
              clear e EQ EU
              go_wp2_with fail
              go_roundw
              case rel => exact ⟨k + 1, by go_num, by have := HLT.out; omega, T5⟩
              case measure => have := HLT.out; simp [RowKit.intOf]; omega
        · have HKM := Lib.hid hkm
          have KA := trio_add2 (fun e he => by
            simp only [List.mem_cons, List.not_mem_nil, or_false] at he
            rcases he with rfl | rfl <;> (dsimp only; omega)) (v := ⟨uk, un, us⟩) (HIN.out _ (List.mem_of_getElem? HUK.out)) HD2.out T3.out (fun v hv => HIN.out v (List.mem_reverse.1 (List.mem_of_mem_take (List.mem_of_mem_drop hv)))) (by rw [List.length_drop, List.length_take]; have := H300.out; have := HLT.out; omega)
          rw [lista_ge HKM.out, listb_ge (rev_at HL.out HLT.out HJ.out HUK.out) HKM.out] at KA
          obtain ⟨r2, hr2⟩ : ∃ rr : Int, (if fitsV 1 ⟨uk, un, us⟩ = true then 0 else 12) = rr := ⟨_, rfl⟩
          rw [hr2] at KA
          unfold fiveO idsO at KA
          simp only at KA
          clear T3 hr2
          go_wp2_with fail
          refine KA.mono ?_
          rintro e w9 ⟨rfl, T4⟩
          clear KA y0 y1 y2 hkm
          have x0 : w9.cell? ⟨B1, 0, none⟩ = some (.int .i64 vk) := by rw [cell_of_row _ _ _ _ _ _ (T4.out.rest.heap (i := 801) (b := B1) (ob := valO ⟨vk, vn, vs⟩) (by simp))]; rfl
          have x1 : w9.cell? ⟨B1, 1, none⟩ = some (.int .i64 vn) := by rw [cell_of_row _ _ _ _ _ _ (T4.out.rest.heap (i := 801) (b := B1) (ob := valO ⟨vk, vn, vs⟩) (by simp))]; rfl
          have x2 : w9.cell? ⟨B1, 2, none⟩ = some (.string vs) := by rw [cell_of_row _ _ _ _ _ _ (T4.out.rest.heap (i := 801) (b := B1) (ob := valO ⟨vk, vn, vs⟩) (by simp))]; rfl
          have T5 := Lib.hid (T4.out.less (E' := []) (fun x hx => by cases hx))
          have EQ := fun W => eql_val W vk vn vs 0 0 ⟨#[]⟩
          have EU := fun W x y => guard_val W .eql x y vk vn vs 0 0 ⟨#[]⟩
          unfold vv at EQ EU
          clear T4
          cases fb
          · have hrr := HRR.out
            rw [if_neg (by simp)] at hrr
            subst hrr
            by_cases h0 : vk = 0
            · subst h0
              have hs0 := nofit_zero HFB.out
              rw [hs0] at EQ
              clear hs0
              go_wp2_with fail
              go_roundw
              case rel => exact ⟨k + 1, by go_num, by have := HLT.out; omega, T5⟩
              case measure => have := HLT.out; simp [RowKit.intOf]; omega
            by_cases h1 : vk = 1
            · subst h1
              have hs0 := nofit_one HFB.out
              clear EQ EU h0
              go_wp2_with fail
              go_roundw
              case rel => exact ⟨k + 1, by go_num, by have := HLT.out; omega, T5⟩
              case measure => have := HLT.out; simp [RowKit.intOf]; omega
            · have e0 : (vk == 0) = false := by simpa using h0
              have e1 : (vk == 1) = false := by simpa using h1
              clear EQ EU h0 h1
              go_wp2_with fail
              go_roundw
              case rel => exact ⟨k + 1, by go_num, by have := HLT.out; omega, T5⟩
              case measure => have := HLT.out; simp [RowKit.intOf]; omega
          · have hrr := HRR.out
            rw [if_pos rfl] at hrr
            subst hrr
            rcases fits_num HFB.out with e | e
            · obtain ⟨rfl, rfl, rfl⟩ : vk = 0 ∧ vn = 0 ∧ vs = ⟨#[]⟩ := by
                unfold VV.none_ at e
                injection e with a b c
                exact ⟨a, b, c⟩
              rw [show sameV 0 0 ⟨#[]⟩ 0 0 ⟨#[]⟩ = true from by kernel_rfl] at EQ
              clear e
              go_wp2_with fail
              go_roundw
              case rel => exact ⟨k + 1, by go_num, by have := HLT.out; omega, T5⟩
              case measure => have := HLT.out; simp [RowKit.intOf]; omega
            · obtain ⟨rfl, rfl⟩ : vk = 1 ∧ vs = ⟨#[]⟩ := by
                unfold intV at e
                injection e with a b c
                exact ⟨a, c⟩
              clear e EQ EU
              go_wp2_with fail
              go_roundw
              case rel => exact ⟨k + 1, by go_num, by have := HLT.out; omega, T5⟩
              case measure => have := HLT.out; simp [RowKit.intOf]; omega
    · have hkn : k = n := by omega
      have hlt' : ¬ ((k : Int) < (n : Int)) := by omega
      have hlt2 : ¬ (k < n) := by omega
      obtain ⟨C0, C1, C2, h0, h1, h2, S⟩ := HR.out
      have e0 : l.take k = l := List.take_of_length_le (by rw [HL.out]; omega)
      rw [e0] at h0
      have hp := list_perm l k m (by rw [HL.out]; exact hkn.symm)
      have c1 : ∀ v ∈ l.reverse.take (min k m), v.inI := fun v hv => HIN.out v (List.mem_reverse.1 (List.mem_of_mem_take hv))
      have c2 : ∀ v ∈ (l.reverse.take k).drop m, v.inI := fun v hv => HIN.out v (List.mem_reverse.1 (List.mem_of_mem_take (List.mem_of_mem_drop hv)))
      have KM := co_merge S h0 h1 h2 hp HIN.out c1 c2 (by rw [HL.out]; exact H300.out)
      clear HR S h0 h1 h2 e0 hp c1 c2 hlt hk hkn
      go_wp2_with fail
      refine KM.mono ?_
      rintro e w8 ⟨rfl, E, R, nn, N, vl, vh, V, HT0, HT2, S8⟩
      clear KM
      have KB := told_rows HT2.out S8.out
      have KA := told_rows HT0.out S8.out
      have t0 : ((R : Int) != (R : Int)) = false := by simp
      go_wp2_with fail
      refine KB.mono ?_
      rintro e w9 ⟨rfl, rfl⟩
      clear KB
      go_wp2_with fail
      refine KA.mono ?_
      rintro e w9 ⟨rfl, rfl⟩
      clear KA
      go_wp2_with fail
      refine (told_count HT0.out S8.out).mono ?_
      rintro e w9 ⟨rfl, rfl⟩
      go_wp2_with fail
      refine (told_count HT2.out S8.out).mono ?_
      rintro e w9 ⟨rfl, rfl⟩
      obtain ⟨xh, xl, exh, exl⟩ : ∃ x y, hiW N = x ∧ loW N = y := ⟨_, _, rfl, rfl⟩
      have KS0 := fun W (hW : Side w E W) => told_sum HT0.out hW
      have KS2 := fun W (hW : Side w E W) => told_sum HT2.out hW
      unfold wv at KS0 KS2
      rw [exh, exl] at KS0 KS2
      have KS0 := Lib.hid KS0
      have KS2 := Lib.hid KS2
      clear exh exl
      go_wp2_with fail
      refine (KS0.out _ S8.out).mono ?_
      rintro e wa ⟨rfl, hb⟩
      have SA := Lib.hid ((S8.out.below hb).alloc 701 (.cells #[.int .i64 xh, .int .u64 xl] 45))
      have S8' := SA.out.sub (E' := E) (fun x hx => List.mem_cons_of_mem _ hx)
      clear hb S8
      go_wp2_with fail
      refine (KS2.out _ S8').mono ?_
      rintro e wb ⟨rfl, hb⟩
      have SB := Lib.hid ((SA.out.below hb).alloc 702 (.cells #[.int .i64 xh, .int .u64 xl] 45))
      have S9' := SB.out.sub (E' := E) (fun x hx => by simp [hx])
      clear hb SA S8' KS0 KS2
      have KL0 := fun W (hW : Side w E W) => told_least HT0.out hW
      have KL2 := fun W (hW : Side w E W) => told_least HT2.out hW
      have KG0 := fun W (hW : Side w E W) => told_greatest HT0.out hW
      have KG2 := fun W (hW : Side w E W) => told_greatest HT2.out hW
      rw [one_val] at KL0 KL2 KG0 KG2
      have KL0 := Lib.hid KL0
      have KL2 := Lib.hid KL2
      have KG0 := Lib.hid KG0
      have KG2 := Lib.hid KG2
      have EL := fun W => eql_val W vl.k vl.n vl.s vl.k vl.n vl.s
      have EH := fun W => eql_val W vh.k vh.n vh.s vh.k vh.n vh.s
      rw [same_self] at EL EH
      have GL := fun W x y => guard_val W .eql x y vl.k vl.n vl.s vl.k vl.n vl.s
      have GH := fun W x y => guard_val W .eql x y vh.k vh.n vh.s vh.k vh.n vh.s
      have EW := fun W => eql_wide W xh xl
      have GW := fun W x y => guard_wide W .eql x y xh xl xh xl
      unfold vv at EL EH GL GH
      replace EL := Lib.hid EL
      replace EH := Lib.hid EH
      replace GL := Lib.hid GL
      replace GH := Lib.hid GH
      replace EW := Lib.hid EW
      replace GW := Lib.hid GW
      obtain ⟨lk, ln, ls⟩ := vl
      obtain ⟨gk, gn, gs⟩ := vh
      simp only at KL0 KL2 KG0 KG2 EL EH GL GH
      go_wp2_with fail
      refine (KL0.out _ S9').mono ?_
      rintro e wd ⟨rfl, hb⟩
      have SC := Lib.hid ((SB.out.below hb).alloc 703 (.cells #[.int .i64 lk, .int .i64 ln, .string ls] 36))
      have S9' := SC.out.sub (E' := E) (fun x hx => by simp [hx])
      clear hb SB
      go_wp2_with fail
      refine (KL2.out _ S9').mono ?_
      rintro e we ⟨rfl, hb⟩
      have SD := Lib.hid ((SC.out.below hb).alloc 704 (.cells #[.int .i64 lk, .int .i64 ln, .string ls] 36))
      have S9' := SD.out.sub (E' := E) (fun x hx => by simp [hx])
      clear hb SC KL0 KL2
      go_wp2_with fail
      refine (KG0.out _ S9').mono ?_
      rintro e wf ⟨rfl, hb⟩
      have SE := Lib.hid ((SD.out.below hb).alloc 705 (.cells #[.int .i64 gk, .int .i64 gn, .string gs] 36))
      have S9' := SE.out.sub (E' := E) (fun x hx => by simp [hx])
      clear hb SD
      go_wp2_with fail
      refine (KG2.out _ S9').mono ?_
      rintro e wg ⟨rfl, hb⟩
      have SF := Lib.hid ((SE.out.below hb).alloc 706 (.cells #[.int .i64 gk, .int .i64 gn, .string gs] 36))
      have S9' := SF.out.sub (E' := E) (fun x hx => by simp [hx])
      clear hb SE KG0 KG2
      have KD0 := told_distinct HT0.out S9'
      obtain ⟨mm, hmm⟩ : ∃ mm, midOf V.answers = mm := ⟨_, rfl⟩
      rw [hmm] at KD0
      go_wp2_with fail
      refine KD0.mono ?_
      rintro e wh ⟨rfl, hb⟩
      have SG := Lib.hid (SF.out.below hb)
      have S9' := SG.out.sub (E' := E) (fun x hx => by simp [hx])
      have KD2 := told_distinct HT2.out S9'
      rw [hmm] at KD2
      clear hb SF KD0 hmm
      go_wp2_with fail
      refine KD2.mono ?_
      rintro e wi ⟨rfl, hb⟩
      have SH := Lib.hid (SG.out.below hb)
      clear hb SG KD2 S9' HT0 HT2
      have z1 := SH.out.heap (i := 701) (b := wa.heap.size) (ob := .cells #[.int .i64 xh, .int .u64 xl] 45 (0, 0)) (by simp)
      have z2 := SH.out.heap (i := 702) (b := wb.heap.size) (ob := .cells #[.int .i64 xh, .int .u64 xl] 45 (0, 0)) (by simp)
      have z3 := SH.out.heap (i := 703) (b := wd.heap.size) (ob := .cells #[.int .i64 lk, .int .i64 ln, .string ls] 36 (0, 0)) (by simp)
      have z4 := SH.out.heap (i := 704) (b := we.heap.size) (ob := .cells #[.int .i64 lk, .int .i64 ln, .string ls] 36 (0, 0)) (by simp)
      have z5 := SH.out.heap (i := 705) (b := wf.heap.size) (ob := .cells #[.int .i64 gk, .int .i64 gn, .string gs] 36 (0, 0)) (by simp)
      have z6 := SH.out.heap (i := 706) (b := wg.heap.size) (ob := .cells #[.int .i64 gk, .int .i64 gn, .string gs] 36 (0, 0)) (by simp)
      have a00 : wi.cell? ⟨wa.heap.size, 0, none⟩ = some (.int .i64 xh) := by rw [cell_of_row _ _ _ _ _ _ z1]; rfl
      have a01 : wi.cell? ⟨wa.heap.size, 1, none⟩ = some (.int .u64 xl) := by rw [cell_of_row _ _ _ _ _ _ z1]; rfl
      have a10 : wi.cell? ⟨wb.heap.size, 0, none⟩ = some (.int .i64 xh) := by rw [cell_of_row _ _ _ _ _ _ z2]; rfl
      have a11 : wi.cell? ⟨wb.heap.size, 1, none⟩ = some (.int .u64 xl) := by rw [cell_of_row _ _ _ _ _ _ z2]; rfl
      have a20 : wi.cell? ⟨wd.heap.size, 0, none⟩ = some (.int .i64 lk) := by rw [cell_of_row _ _ _ _ _ _ z3]; rfl
      have a21 : wi.cell? ⟨wd.heap.size, 1, none⟩ = some (.int .i64 ln) := by rw [cell_of_row _ _ _ _ _ _ z3]; rfl
      have a22 : wi.cell? ⟨wd.heap.size, 2, none⟩ = some (.string ls) := by rw [cell_of_row _ _ _ _ _ _ z3]; rfl
      have a30 : wi.cell? ⟨we.heap.size, 0, none⟩ = some (.int .i64 lk) := by rw [cell_of_row _ _ _ _ _ _ z4]; rfl
      have a31 : wi.cell? ⟨we.heap.size, 1, none⟩ = some (.int .i64 ln) := by rw [cell_of_row _ _ _ _ _ _ z4]; rfl
      have a32 : wi.cell? ⟨we.heap.size, 2, none⟩ = some (.string ls) := by rw [cell_of_row _ _ _ _ _ _ z4]; rfl
      have a40 : wi.cell? ⟨wf.heap.size, 0, none⟩ = some (.int .i64 gk) := by rw [cell_of_row _ _ _ _ _ _ z5]; rfl
      have a41 : wi.cell? ⟨wf.heap.size, 1, none⟩ = some (.int .i64 gn) := by rw [cell_of_row _ _ _ _ _ _ z5]; rfl
      have a42 : wi.cell? ⟨wf.heap.size, 2, none⟩ = some (.string gs) := by rw [cell_of_row _ _ _ _ _ _ z5]; rfl
      have a50 : wi.cell? ⟨wg.heap.size, 0, none⟩ = some (.int .i64 gk) := by rw [cell_of_row _ _ _ _ _ _ z6]; rfl
      have a51 : wi.cell? ⟨wg.heap.size, 1, none⟩ = some (.int .i64 gn) := by rw [cell_of_row _ _ _ _ _ _ z6]; rfl
      have a52 : wi.cell? ⟨wg.heap.size, 2, none⟩ = some (.string gs) := by rw [cell_of_row _ _ _ _ _ _ z6]; rfl
      have EL := EL.out
      have EH := EH.out
      have GL := GL.out
      have GH := GH.out
      have EW := EW.out
      have GW := GW.out
      have KL := clives_any wi
      have HB := Lib.hid SH.out.base
      clear z1 z2 z3 z4 z5 z6 SH
      go_wp2_with fail
      refine KL.mono ?_
      rintro e wj ⟨rfl, hbj⟩
      have FI := HB.out.trans (hbj.mono HB.out.size)
      clear KL hbj HB
      go_wp2_with fail
      go_ret
      exact ⟨rfl, FI⟩
end Go.Proofs.YtlhpbfjelgmkeaaGreat
/- A slice of values that came in. Conditions: none. -/
set_option maxRecDepth 100000
namespace Go.Proofs.YtlhpbfjelgmkeaaGreat
open Go.RowKit Go.Maps Go.Sort Go.Lib Go.ChangeShapes Go.WideShapes Go.ChangeAt Go.Deep Go.Joins

/-- a slice of values that came in -/
theorem vals_of {H : Type} {enc : TypeId × Value → H} {w : World} {v : Value} {d : DataW H} {p : List MemPlace} {r : Reach} {b0 : Nat} (hv : Value.okWide Tryz.prog w r b0 22 v)
    (h : DataW.Trod enc Tryz.prog w 0 (fun _ => true) true 22 v d p) : ∃ a n c, v = .slice a n c ∧ ∃ vs : List VV, vs.length = n ∧ HoldsV w (.slice a n c) vs ∧ ∀ x ∈ vs, x.inI := by
  obtain ⟨a, n, c, rfl⟩ := okWide_slice Tryz.underlying22 hv
  obtain ⟨fuel, hf⟩ := h
  refine ⟨a, n, c, rfl, ?_⟩
  rcases open_structs (Tryz.underlying22) (Tryz.underlying36) (by kernel_rfl) (by kernel_rfl) hf with hcs | ⟨a', len, cap, hcs, hlc, _, hi⟩
  · simp [Value.cells] at hcs
    obtain ⟨rfl, rfl, rfl⟩ := hcs
    exact ⟨[], rfl, holdsV_nil w, fun x hx => absurd hx (by simp)⟩
  · simp [Value.cells] at hcs
    obtain ⟨rfl, rfl, rfl⟩ := hcs
    have key : ∀ i, ∃ x : VV, i < n → (w.cell? (a'.add (i * 3)) = some (.int .i64 x.k) ∧ w.cell? ⟨(a'.add (i * 3)).block, (a'.add (i * 3)).off + 1, none⟩ = some (.int .i64 x.n) ∧ w.cell? ⟨(a'.add (i * 3)).block, (a'.add (i * 3)).off + 2, none⟩ = some (.string x.s)) ∧ x.inI := fun i => by
      by_cases hil : i < n
      · obtain ⟨n', hf'⟩ := hi i hil
        obtain ⟨v0, y0, c0, t0⟩ := hf' 0 _ rfl
        obtain ⟨v1, y1, c1, t1⟩ := hf' 1 _ rfl
        obtain ⟨v2, y2, c2, t2⟩ := hf' 2 _ rfl
        obtain ⟨b0, e0, _, z0⟩ := DataW.trod_int Tryz.underlying3 t0
        obtain ⟨b1, e1, _, z1⟩ := DataW.trod_int Tryz.underlying3 t1
        obtain ⟨b2, e2, _, z2⟩ := DataW.trod_string Tryz.underlying9 t2
        simp only [List.cons.injEq, and_true] at e0 e1 e2
        subst e0 e1 e2
        have x1 := bounds_of_i64 z1
        refine ⟨⟨b0, b1, b2⟩, fun _ => ⟨⟨c0, ?_, ?_⟩, ⟨by show _ ≤ b1; omega, by show b1 < _; omega⟩⟩⟩
        · rw [← add_offn a' (i * 3) 1 (by decide)]; exact c1
        · rw [← add_offn a' (i * 3) 2 (by decide)]; exact c2
      · exact ⟨VV.none_, fun h => absurd h hil⟩
    obtain ⟨f, hf'⟩ := Classical.skolem.1 key
    refine ⟨(List.range n).map f, by simp, ⟨some a', c, by simp, by simpa using hlc, .inr ⟨a', rfl, fun i x hx => ?_⟩⟩, fun x hx => ?_⟩
    · rw [List.getElem?_map] at hx
      obtain ⟨j, hj, rfl⟩ := Option.map_eq_some_iff.1 hx
      obtain ⟨hlt, e⟩ := List.getElem?_eq_some_iff.1 hj
      simp at hlt e
      subst e
      exact (hf' i hlt).1
    · obtain ⟨i, hir, rfl⟩ := List.mem_map.1 hx
      exact (hf' i (List.mem_range.1 hir)).2
end Go.Proofs.YtlhpbfjelgmkeaaGreat
/- Two closed facts of this translation that every row asks. Conditions: none. -/
namespace Go.Proofs.YtlhpbfjelgmkeaaGreat
theorem own : ownKnob Tryz.prog.godebug = none := by kernel_rfl
theorem laidOut : laidOutB Tryz.prog = true := by kernel_rfl
end Go.Proofs.YtlhpbfjelgmkeaaGreat
