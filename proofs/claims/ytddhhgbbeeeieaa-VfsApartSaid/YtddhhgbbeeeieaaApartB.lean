/- What act does to a disk in the rounds of VfsApart: the calls of the disk and of the reference disk, one by one. Conditions: a disk that was made, an empty reference disk. -/
import Derived.Test.YtddhhgbbeeeieaaApartA
import Derived.Deep.RegionHeld3
set_option maxRecDepth 100000
namespace Go.Proofs.Ytddhhgbbeeeieaa
open Go.RowKit Go.Maps Go.Sort

/-- the call answers yes or no -/
def IsB (e : Ending) : Prop := ∃ b : Bool, e = .returned (.bool b)
theorem isB (b : Bool) : IsB (.returned (.bool b)) := ⟨b, rfl⟩

/-- the empty reference disk's block -/
def refO : Obj := .cells #[.slice none 0 0, .bool false, .int .i64 0, .slice none 0 0, .int .i64 0] 29 (0, 0)
/-- the block of act's own copy of its third argument -/
def actO (kd n m : Int) (s t : ByteArray) (dv kv : Value) : Obj := .cells #[.int .i64 kd, .string s, .string t, .int .i64 n, .int .i64 m, dv, kv] 32 (0, 0)
theorem actO_cell {w : World} {b : Nat} {kd n m : Int} {s t : ByteArray} {dv kv : Value} (h : w.heap[b]? = some (actO kd n m s t dv kv)) :
    w.cell? ⟨b, 0, none⟩ = some (.int .i64 kd) ∧ w.cell? ⟨b, 1, none⟩ = some (.string s) ∧ w.cell? ⟨b, 2, none⟩ = some (.string t) ∧ w.cell? ⟨b, 5, none⟩ = some dv := by
  refine ⟨?_, ?_, ?_, ?_⟩ <;> (rw [cell_of_row w b _ _ _ _ h]; rfl)

section
variable {w0 w : World} {p q : Nat} {nm dat : List UInt8} {lo hi o : Int} {b5 : Nat} {ob : Obj} {Y : List (Nat × Obj)}

theorem ref_step {f : FuncId} {args : Array Value} (h : StA w0 p nm dat lo hi ((q, refO) :: Y) w) (hq : ∀ x ∈ Y, x.1 ≠ q)
    (hc : RefE w q → Calls Try.prog f args w fun e w' => (∃ r : Int, e = .returned (.int .i64 r)) ∧ Kept (fun k => k = q) w w') :
    Calls Try.prog f args w fun e w' => (∃ r : Int, e = .returned (.int .i64 r)) ∧ StA w0 p nm dat lo hi Y w' := by
  refine (hc (h.at (List.mem_cons_self ..))).mono ?_
  rintro e w' ⟨hr, hk⟩
  exact ⟨hr, h.turn hq hk⟩
theorem ref_below {f : FuncId} {args : Array Value} {P : Ending → Prop} (hc : Calls Try.prog f args w fun e w' => P e ∧ Below w.heap.size w w') :
    Calls Try.prog f args w fun e w' => P e ∧ Kept (fun k => k = q) w w' := hc.mono fun _ _ h => ⟨h.1, Kept.of_below h.2⟩

variable (ho1 : 0 ≤ o) (ho2 : o ≤ 100000) (s : ByteArray) (hs : s.size ≤ maxLen) (hn : s.data.toList ≠ nm)
include ho1 ho2 hs hn
theorem d_create (h : StA w0 p nm dat o o Y w) : Calls Try.prog 15 #[.pointer (some ⟨p, 0, none⟩), .string s] w fun r w' => (∃ e : Int, r = .returned (.int .i64 e)) ∧ StA w0 p nm dat o (o + 1) Y w' :=
  (h.does ho1 ho2 (fun _ _ h1 _ _ a b c => Create_any h1 s hs a b c) (fun _ _ _ g k => still_create hn g k)).mono fun _ _ r => ⟨r.1, r.2.out⟩
theorem d_sync (h : StA w0 p nm dat o o Y w) : Calls Try.prog 17 #[.pointer (some ⟨p, 0, none⟩), .string s] w fun r w' => (∃ e : Int, r = .returned (.int .i64 e)) ∧ StA w0 p nm dat o (o + 1) Y w' :=
  (h.does ho1 ho2 (fun _ _ h1 _ _ a b c => Sync_any h1 s hs a b c) (fun _ _ _ g k => still_sync hn g k)).mono fun _ _ r => ⟨r.1, r.2.out⟩
theorem d_remove (h : StA w0 p nm dat o o Y w) : Calls Try.prog 26 #[.pointer (some ⟨p, 0, none⟩), .string s] w fun r w' => (∃ e : Int, r = .returned (.int .i64 e)) ∧ StA w0 p nm dat o (o + 1) Y w' :=
  (h.does ho1 ho2 (fun _ _ h1 _ _ a b c => Remove_any h1 s hs a b c) (fun _ _ _ g k => still_remove hn g k)).mono fun _ _ r => ⟨r.1, r.2.out⟩
theorem d_rename (t : ByteArray) (ht : t.size ≤ maxLen) (htn : t.data.toList ≠ nm) (h : StA w0 p nm dat o o Y w) : Calls Try.prog 23 #[.pointer (some ⟨p, 0, none⟩), .string s, .string t] w fun r w' => (∃ e : Int, r = .returned (.int .i64 e)) ∧ StA w0 p nm dat o (o + 1) Y w' :=
  (h.does ho1 ho2 (fun _ _ h1 _ _ a b c => Rename_any h1 s t hs ht a b c) (fun _ _ _ g k => still_rename hn htn g k)).mono fun _ _ r => ⟨r.1, r.2.out⟩
theorem d_write {g : Nat} {l : List UInt8} {n c : Nat} (hbv : Holds8 w (.slice (some ⟨g, 1, none⟩) n c) l) (hg : ∃ ob, (g, ob) ∈ Y) (h : StA w0 p nm dat o o Y w) : Calls Try.prog 16 #[.pointer (some ⟨p, 0, none⟩), .string s, .slice (some ⟨g, 1, none⟩) n c] w fun r w' => (∃ e : Int, r = .returned (.int .i64 e)) ∧ StA w0 p nm dat o (o + 1) Y w' :=
  (h.does ho1 ho2 (R := fun D => WriteP D s.data.toList l) (fun _ _ h1 hX _ a b c => Write_any h1 s hs hbv (fun _ _ _ e _ => by
    simp only [Value.slice.injEq, Option.some.injEq] at e
    obtain ⟨rfl, _, _⟩ := e
    obtain ⟨ob, hg⟩ := hg
    exact hX _ hg) a b c) (fun _ _ _ g k => still_write hn g k)).mono fun _ _ r => ⟨r.1, r.2.out⟩
end

section
variable {w0 w : World} {p q : Nat} {nm dat : List UInt8} {o n m : Int} {t : ByteArray} {dv kv : Value} (ho1 : 0 ≤ o) (ho2 : o ≤ 100000) (s : ByteArray) (hs : s.size ≤ maxLen) (hn : s.data.toList ≠ nm)
include ho1 ho2 hs hn

set_option maxHeartbeats 8000000 in
theorem act_create (h : StA w0 p nm dat o o [(q, refO)] w) :
    Calls Try.prog 10 #[.pointer (some ⟨p, 0, none⟩), .pointer (some ⟨q, 0, none⟩), .agg #[.int .i64 0, .string s, .string t, .int .i64 n, .int .i64 m, dv, kv]] w fun e w' => IsB e ∧ Hid (StA w0 p nm dat o (o + 1) [] w') := by
  have hql : q < w.heap.size := (Array.getElem?_eq_some_iff.1 (h.at (List.mem_cons_self ..))).1
  have h1 := h.alloc (actO 0 n m s t dv kv)
  obtain ⟨c0, c1, _, _⟩ := actO_cell (h1.at (List.mem_cons_self ..))
  have HS := h1.drew
  have hne : ∀ x ∈ [(w.heap.size, actO 0 n m s t dv kv)], x.1 ≠ q := by simp; omega
  have CA := Lib.hid (fun W (g : StA w0 p nm dat o o [(w.heap.size, actO 0 n m s t dv kv), (q, refO)] W) => d_create ho1 ho2 s hs hn g)
  have CB := Lib.hid (fun W (g : StA w0 p nm dat o o [(w.heap.size, actO 0 n m s t dv kv)] W) => d_create ho1 ho2 s hs hn g)
  have RA := Lib.hid (fun W (g : StA w0 p nm dat o o [(w.heap.size, actO 0 n m s t dv kv), (q, refO)] W) => ref_step (g.sub (Y := [(q, refO), (w.heap.size, actO 0 n m s t dv kv)]) (by simp)) hne (fun r => refCreate_empty r s hs))
  have RB := Lib.hid (fun W (g : StA w0 p nm dat o (o + 1) [(w.heap.size, actO 0 n m s t dv kv), (q, refO)] W) => ref_step (g.sub (Y := [(q, refO), (w.heap.size, actO 0 n m s t dv kv)]) (by simp)) hne (fun r => refCreate_empty r s hs))
  have KC := Lib.hid (fun W lo hi X (g : StA w0 p nm dat lo hi ((w.heap.size, actO 0 n m s t dv kv) :: X) W) => (actO_cell (g.at (List.mem_cons_self ..))).2.1)
  clear h h1 hne ho1 ho2 hs hn hql
  unfold actO at c0 c1
  go_enter Try.func10, Try.ntmps10
  go_wp2_with fail
  go_region_held3 (fun w' => w'.cell? ⟨w.heap.size, 1, none⟩ = some (.string s))
    (first | assumption | exact KC.out _ _ _ _ (by assumption))
    (first
      | (go_at_call 15; refine (CA.out _ (by assumption)).mono ?_; rintro e w5 ⟨⟨r5, rfl⟩, s5⟩)
      | (go_at_call 15; refine (CB.out _ (by assumption)).mono ?_; rintro e w5 ⟨⟨r5, rfl⟩, s5⟩)
      | (go_at_call 29; refine (RA.out _ (by assumption)).mono ?_; rintro e w6 ⟨⟨r6, rfl⟩, s6⟩)
      | (go_at_call 29; refine (RB.out _ (by assumption)).mono ?_; rintro e w6 ⟨⟨r6, rfl⟩, s6⟩))
  all_goals
    go_wp2_with fail
    go_ret
    first
      | exact ⟨isB _, s5.sub (by simp)⟩
      | exact ⟨isB _, s6.sub (by simp)⟩
set_option maxHeartbeats 8000000 in
theorem act_sync (h : StA w0 p nm dat o o [(q, refO)] w) :
    Calls Try.prog 10 #[.pointer (some ⟨p, 0, none⟩), .pointer (some ⟨q, 0, none⟩), .agg #[.int .i64 2, .string s, .string t, .int .i64 n, .int .i64 m, dv, kv]] w fun e w' => IsB e ∧ Hid (StA w0 p nm dat o (o + 1) [] w') := by
  have hql : q < w.heap.size := (Array.getElem?_eq_some_iff.1 (h.at (List.mem_cons_self ..))).1
  have h1 := h.alloc (actO 2 n m s t dv kv)
  obtain ⟨c0, c1, _, _⟩ := actO_cell (h1.at (List.mem_cons_self ..))
  have HS := h1.drew
  have hne : ∀ x ∈ [(w.heap.size, actO 2 n m s t dv kv)], x.1 ≠ q := by simp; omega
  have CA := Lib.hid (fun W (g : StA w0 p nm dat o o [(w.heap.size, actO 2 n m s t dv kv), (q, refO)] W) => d_sync ho1 ho2 s hs hn g)
  have CB := Lib.hid (fun W (g : StA w0 p nm dat o o [(w.heap.size, actO 2 n m s t dv kv)] W) => d_sync ho1 ho2 s hs hn g)
  have RA := Lib.hid (fun W (g : StA w0 p nm dat o o [(w.heap.size, actO 2 n m s t dv kv), (q, refO)] W) => ref_step (g.sub (Y := [(q, refO), (w.heap.size, actO 2 n m s t dv kv)]) (by simp)) hne (fun r => ref_below (refSync_empty r s hs)))
  have RB := Lib.hid (fun W (g : StA w0 p nm dat o (o + 1) [(w.heap.size, actO 2 n m s t dv kv), (q, refO)] W) => ref_step (g.sub (Y := [(q, refO), (w.heap.size, actO 2 n m s t dv kv)]) (by simp)) hne (fun r => ref_below (refSync_empty r s hs)))
  have KC := Lib.hid (fun W lo hi X (g : StA w0 p nm dat lo hi ((w.heap.size, actO 2 n m s t dv kv) :: X) W) => (actO_cell (g.at (List.mem_cons_self ..))).2.1)
  clear h h1 hne ho1 ho2 hs hn hql
  unfold actO at c0 c1
  go_enter Try.func10, Try.ntmps10
  go_wp2_with fail
  go_region_held3 (fun w' => w'.cell? ⟨w.heap.size, 1, none⟩ = some (.string s))
    (first | assumption | exact KC.out _ _ _ _ (by assumption))
    (first
      | (go_at_call 17; refine (CA.out _ (by assumption)).mono ?_; rintro e w5 ⟨⟨r5, rfl⟩, s5⟩)
      | (go_at_call 17; refine (CB.out _ (by assumption)).mono ?_; rintro e w5 ⟨⟨r5, rfl⟩, s5⟩)
      | (go_at_call 33; refine (RA.out _ (by assumption)).mono ?_; rintro e w6 ⟨⟨r6, rfl⟩, s6⟩)
      | (go_at_call 33; refine (RB.out _ (by assumption)).mono ?_; rintro e w6 ⟨⟨r6, rfl⟩, s6⟩))
  all_goals
    go_wp2_with fail
    go_ret
    first
      | exact ⟨isB _, s5.sub (by simp)⟩
      | exact ⟨isB _, s6.sub (by simp)⟩
set_option maxHeartbeats 8000000 in
theorem act_remove (h : StA w0 p nm dat o o [(q, refO)] w) :
    Calls Try.prog 10 #[.pointer (some ⟨p, 0, none⟩), .pointer (some ⟨q, 0, none⟩), .agg #[.int .i64 4, .string s, .string t, .int .i64 n, .int .i64 m, dv, kv]] w fun e w' => IsB e ∧ Hid (StA w0 p nm dat o (o + 1) [] w') := by
  have hql : q < w.heap.size := (Array.getElem?_eq_some_iff.1 (h.at (List.mem_cons_self ..))).1
  have h1 := h.alloc (actO 4 n m s t dv kv)
  obtain ⟨c0, c1, _, _⟩ := actO_cell (h1.at (List.mem_cons_self ..))
  have HS := h1.drew
  have hne : ∀ x ∈ [(w.heap.size, actO 4 n m s t dv kv)], x.1 ≠ q := by simp; omega
  have CA := Lib.hid (fun W (g : StA w0 p nm dat o o [(w.heap.size, actO 4 n m s t dv kv), (q, refO)] W) => d_remove ho1 ho2 s hs hn g)
  have CB := Lib.hid (fun W (g : StA w0 p nm dat o o [(w.heap.size, actO 4 n m s t dv kv)] W) => d_remove ho1 ho2 s hs hn g)
  have RA := Lib.hid (fun W (g : StA w0 p nm dat o o [(w.heap.size, actO 4 n m s t dv kv), (q, refO)] W) => ref_step (g.sub (Y := [(q, refO), (w.heap.size, actO 4 n m s t dv kv)]) (by simp)) hne (fun r => ref_below (refRemove_empty r s hs)))
  have RB := Lib.hid (fun W (g : StA w0 p nm dat o (o + 1) [(w.heap.size, actO 4 n m s t dv kv), (q, refO)] W) => ref_step (g.sub (Y := [(q, refO), (w.heap.size, actO 4 n m s t dv kv)]) (by simp)) hne (fun r => ref_below (refRemove_empty r s hs)))
  have KC := Lib.hid (fun W lo hi X (g : StA w0 p nm dat lo hi ((w.heap.size, actO 4 n m s t dv kv) :: X) W) => (actO_cell (g.at (List.mem_cons_self ..))).2.1)
  clear h h1 hne ho1 ho2 hs hn hql
  unfold actO at c0 c1
  go_enter Try.func10, Try.ntmps10
  go_wp2_with fail
  go_region_held3 (fun w' => w'.cell? ⟨w.heap.size, 1, none⟩ = some (.string s))
    (first | assumption | exact KC.out _ _ _ _ (by assumption))
    (first
      | (go_at_call 26; refine (CA.out _ (by assumption)).mono ?_; rintro e w5 ⟨⟨r5, rfl⟩, s5⟩)
      | (go_at_call 26; refine (CB.out _ (by assumption)).mono ?_; rintro e w5 ⟨⟨r5, rfl⟩, s5⟩)
      | (go_at_call 35; refine (RA.out _ (by assumption)).mono ?_; rintro e w6 ⟨⟨r6, rfl⟩, s6⟩)
      | (go_at_call 35; refine (RB.out _ (by assumption)).mono ?_; rintro e w6 ⟨⟨r6, rfl⟩, s6⟩))
  all_goals
    go_wp2_with fail
    go_ret
    first
      | exact ⟨isB _, s5.sub (by simp)⟩
      | exact ⟨isB _, s6.sub (by simp)⟩
set_option maxHeartbeats 8000000 in
theorem act_rename (ht : t.size ≤ maxLen) (htn : t.data.toList ≠ nm) (h : StA w0 p nm dat o o [(q, refO)] w) :
    Calls Try.prog 10 #[.pointer (some ⟨p, 0, none⟩), .pointer (some ⟨q, 0, none⟩), .agg #[.int .i64 3, .string s, .string t, .int .i64 n, .int .i64 m, dv, kv]] w fun e w' => IsB e ∧ Hid (StA w0 p nm dat o (o + 1) [] w') := by
  have hql : q < w.heap.size := (Array.getElem?_eq_some_iff.1 (h.at (List.mem_cons_self ..))).1
  have h1 := h.alloc (actO 3 n m s t dv kv)
  obtain ⟨c0, c1, c2, _⟩ := actO_cell (h1.at (List.mem_cons_self ..))
  have HS := h1.drew
  have hne : ∀ x ∈ [(w.heap.size, actO 3 n m s t dv kv)], x.1 ≠ q := by simp; omega
  have CA := Lib.hid (fun W (g : StA w0 p nm dat o o [(w.heap.size, actO 3 n m s t dv kv), (q, refO)] W) => d_rename ho1 ho2 s hs hn t ht htn g)
  have CB := Lib.hid (fun W (g : StA w0 p nm dat o o [(w.heap.size, actO 3 n m s t dv kv)] W) => d_rename ho1 ho2 s hs hn t ht htn g)
  have RA := Lib.hid (fun W (g : StA w0 p nm dat o o [(w.heap.size, actO 3 n m s t dv kv), (q, refO)] W) => ref_step (g.sub (Y := [(q, refO), (w.heap.size, actO 3 n m s t dv kv)]) (by simp)) hne (fun r => ref_below (refRename_empty r s t hs ht)))
  have RB := Lib.hid (fun W (g : StA w0 p nm dat o (o + 1) [(w.heap.size, actO 3 n m s t dv kv), (q, refO)] W) => ref_step (g.sub (Y := [(q, refO), (w.heap.size, actO 3 n m s t dv kv)]) (by simp)) hne (fun r => ref_below (refRename_empty r s t hs ht)))
  have KC2 := Lib.hid (fun W lo hi X (g : StA w0 p nm dat lo hi ((w.heap.size, actO 3 n m s t dv kv) :: X) W) => (actO_cell (g.at (List.mem_cons_self ..))).2.2.1)
  have KC := Lib.hid (fun W lo hi X (g : StA w0 p nm dat lo hi ((w.heap.size, actO 3 n m s t dv kv) :: X) W) => (actO_cell (g.at (List.mem_cons_self ..))).2.1)
  clear h h1 ht htn hne ho1 ho2 hs hn hql
  unfold actO at c0 c1 c2
  go_enter Try.func10, Try.ntmps10
  go_wp2_with fail
  go_region_held3 (fun w' => w'.cell? ⟨w.heap.size, 1, none⟩ = some (.string s) ∧ w'.cell? ⟨w.heap.size, 2, none⟩ = some (.string t))
    (first | assumption | exact ⟨KC.out _ _ _ _ (by assumption), KC2.out _ _ _ _ (by assumption)⟩)
    (first
      | (go_at_call 23; refine (CA.out _ (by assumption)).mono ?_; rintro e w5 ⟨⟨r5, rfl⟩, s5⟩)
      | (go_at_call 23; refine (CB.out _ (by assumption)).mono ?_; rintro e w5 ⟨⟨r5, rfl⟩, s5⟩)
      | (go_at_call 34; refine (RA.out _ (by assumption)).mono ?_; rintro e w6 ⟨⟨r6, rfl⟩, s6⟩)
      | (go_at_call 34; refine (RB.out _ (by assumption)).mono ?_; rintro e w6 ⟨⟨r6, rfl⟩, s6⟩))
  all_goals
    go_wp2_with fail
    go_ret
    first
      | exact ⟨isB _, s5.sub (by simp)⟩
      | exact ⟨isB _, s6.sub (by simp)⟩
end
end Go.Proofs.Ytddhhgbbeeeieaa
