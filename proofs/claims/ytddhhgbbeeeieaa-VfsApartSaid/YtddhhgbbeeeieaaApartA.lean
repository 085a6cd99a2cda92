/- What a disk is in the rounds of VfsApart: a file of a name stays as it is, whatever is done to other names. Conditions: a disk that was made. -/
import Derived.Test.YtddhhgbbeeeieaaVfsKept
import Derived.Test.YtddhhgbbeeeieaaVfsRefG
import Derived.Test.YtddhhgbbeeeieaaVfsRemove
set_option maxRecDepth 100000
namespace Go.Proofs.Ytddhhgbbeeeieaa
open Go.RowKit Go.Maps Go.Sort

theorem fileOf_cons (x : List UInt8 × FileC) (L : List (List UInt8 × FileC)) (n : List UInt8) : fileOf (x :: L) n = if x.1 == n then some x.2 else fileOf L n := by
  unfold fileOf
  rw [List.find?_cons]
  cases x.1 == n <;> rfl
theorem fileOf_ins {k n : List UInt8} (h : k ≠ n) (f : FileC) : ∀ L, fileOf (insL (k, f) L) n = fileOf L n
  | [] => by
    rw [insL, fileOf_cons, if_neg (by simpa using h)]
  | y :: r => by
    unfold insL
    split
    · rw [fileOf_cons (k, f), if_neg (by simpa using h)]
    · rw [fileOf_cons, fileOf_cons, fileOf_ins h f r]
theorem fileOf_drop {k n : List UInt8} (h : k ≠ n) : ∀ L : List (List UInt8 × FileC), fileOf (dropL k L) n = fileOf L n
  | [] => rfl
  | y :: r => by
    have ih := fileOf_drop h r
    unfold dropL at ih ⊢
    rw [List.filter_cons]
    by_cases g : y.1 = k
    · rw [if_neg (by simpa using g), ih, fileOf_cons, if_neg (by rw [g]; simpa using h)]
    · rw [if_pos (by simpa using g), fileOf_cons, fileOf_cons, ih]
theorem fileOf_put {k n : List UInt8} (h : k ≠ n) (f : FileC) (L : List (List UInt8 × FileC)) : fileOf (putL k f L) n = fileOf L n := by
  unfold putL
  rw [fileOf_ins h, fileOf_drop h]
theorem fileOf_set {k n : List UInt8} (h : k ≠ n) (f f' : FileC) : ∀ (L : List (List UInt8 × FileC)) (i : Nat), L[i]? = some (k, f) → fileOf (L.set i (k, f')) n = fileOf L n
  | [], i, hi => by simp at hi
  | y :: r, 0, hi => by
    simp at hi
    subst hi
    rw [List.set_cons_zero, fileOf_cons, fileOf_cons, if_neg (by simpa using h), if_neg (by simpa using h)]
  | y :: r, i + 1, hi => by
    rw [List.set_cons_succ, fileOf_cons, fileOf_cons, fileOf_set h f f' r i (by simpa using hi)]

/-- what is known of the disk: it is on, no cut is planned, there were so many operations; the file is as it was -/
structure Still (nm dat : List UInt8) (lo hi : Int) (D : DV) : Prop where
  on : D.on = true
  left : D.left = 0
  low : lo ≤ D.ops
  high : D.ops ≤ hi
  file : ∃ f, fileOf D.files nm = some f ∧ f.bytes = dat ∧ f.synced = 0

theorem Still.same {nm dat : List UInt8} {o : Int} {D : DV} (h : Still nm dat o o D) : Still nm dat o (o + 1) D := ⟨h.on, h.left, h.low, by have := h.high; omega, h.file⟩
theorem Still.op {nm dat : List UInt8} {o : Int} {D : DV} (h : Still nm dat o o D) {L : List (List UInt8 × FileC)} (hL : fileOf L nm = fileOf D.files nm) : Still nm dat o (o + 1) { opD D with files := L } := by
  have h1 := h.low
  have h2 := h.high
  refine ⟨h.on, ?_, ?_, ?_, ?_⟩
  · show (if 0 < D.left then D.left - 1 else D.left) = 0
    rw [h.left]; rfl
  · show o ≤ D.ops + 1
    omega
  · show D.ops + 1 ≤ o + 1
    omega
  · show ∃ f, fileOf L nm = some f ∧ _
    rw [hL]; exact h.file

theorem still_oper {nm dat : List UInt8} {o e : Int} {D D2 : DV} {lays : Bool} {R : DV → Prop} (h : Still nm dat o o D) (hw : OperP D lays R e D2) (hR : ∀ D2, R D2 → Still nm dat o (o + 1) D2) : Still nm dat o (o + 1) D2 := by
  rcases hw with ⟨_, _, r⟩ | ⟨g, _⟩ | ⟨g, _⟩
  · exact hR _ r
  · rw [h.left] at g; omega
  · rw [h.left] at g; omega
theorem still_create {nm dat k : List UInt8} {o e : Int} {D D2 : DV} (hk : k ≠ nm) (h : Still nm dat o o D) (hw : CreateP D k e D2) : Still nm dat o (o + 1) D2 := by
  rcases hw with ⟨_, _, rfl⟩ | ⟨_, _, _, _, rfl⟩ | ⟨_, _, r⟩
  · exact h.same
  · exact h.same
  · refine still_oper h r ?_
    rintro D2 ⟨f, _, _, rfl⟩
    exact h.op (fileOf_put hk f _)
theorem still_write {nm dat k l : List UInt8} {o e : Int} {D D2 : DV} (hk : k ≠ nm) (h : Still nm dat o o D) (hw : WriteP D k l e D2) : Still nm dat o (o + 1) D2 := by
  rcases hw with ⟨_, _, rfl⟩ | ⟨_, _, _, _, _, rfl⟩ | ⟨_, i, f, hi, _, r⟩
  · exact h.same
  · exact h.same
  · refine still_oper h r ?_
    rintro D2 ⟨f', _, _, _, rfl⟩
    exact h.op (fileOf_set hk f f' _ i hi)
theorem still_sync {nm dat k : List UInt8} {o e : Int} {D D2 : DV} (hk : k ≠ nm) (h : Still nm dat o o D) (hw : SyncP D k e D2) : Still nm dat o (o + 1) D2 := by
  rcases hw with ⟨_, _, rfl⟩ | ⟨_, i, f, hi, r⟩
  · exact h.same
  · refine still_oper h r ?_
    rintro D2 rfl
    exact h.op (fileOf_set hk f _ _ i hi)
theorem still_remove {nm dat k : List UInt8} {o e : Int} {D D2 : DV} (hk : k ≠ nm) (h : Still nm dat o o D) (hw : RemoveP D k e D2) : Still nm dat o (o + 1) D2 := by
  rcases hw with ⟨_, _, rfl⟩ | ⟨_, r⟩
  · exact h.same
  · refine still_oper h r ?_
    rintro D2 rfl
    exact h.op (fileOf_drop hk _)
theorem still_rename {nm dat k t : List UInt8} {o e : Int} {D D2 : DV} (hk : k ≠ nm) (ht : t ≠ nm) (h : Still nm dat o o D) (hw : RenameP D k t e D2) : Still nm dat o (o + 1) D2 := by
  rcases hw with ⟨_, _, rfl⟩ | ⟨_, _, _, rfl⟩ | ⟨_, f, _, r⟩
  · exact h.same
  · exact h.same
  · refine still_oper h r ?_
    rintro D2 rfl
    exact h.op (by rw [fileOf_put ht, fileOf_drop hk])

/-- a world in a round: the disk, and blocks beside it that hold what they hold -/
def StA (w0 : World) (p : Nat) (nm dat : List UInt8) (lo hi : Int) (X : List (Nat × Obj)) (w : World) : Prop :=
  ∃ T D, DiskAt w p T D ∧ Below w0.heap.size w0 w ∧ (∀ k, T k ≠ none → w0.heap.size ≤ k) ∧ Still nm dat lo hi D ∧ ∀ x ∈ X, T x.1 = none ∧ w0.heap.size ≤ x.1 ∧ w.heap[x.1]? = some x.2

section
variable {w0 w w' : World} {p : Nat} {nm dat : List UInt8} {lo hi o : Int} {X Y : List (Nat × Obj)}
theorem StA.sub (h : StA w0 p nm dat lo hi X w) (hs : ∀ x ∈ Y, x ∈ X) : StA w0 p nm dat lo hi Y w := by
  obtain ⟨T, D, h1, h2, h3, h4, h5⟩ := h
  exact ⟨T, D, h1, h2, h3, h4, fun x hx => h5 x (hs x hx)⟩
theorem StA.base (h : StA w0 p nm dat lo hi X w) : Below w0.heap.size w0 w := by obtain ⟨T, D, h1, h2, h3, h4, h5⟩ := h; exact h2
theorem StA.at (h : StA w0 p nm dat lo hi X w) {x : Nat × Obj} (hx : x ∈ X) : w.heap[x.1]? = some x.2 := by obtain ⟨T, D, h1, h2, h3, h4, h5⟩ := h; exact (h5 x hx).2.2
/-- all that was there is as it was -/
theorem StA.below (h : StA w0 p nm dat lo hi X w) (hb : Below w.heap.size w w') : StA w0 p nm dat lo hi X w' := by
  obtain ⟨T, D, h1, h2, h3, h4, h5⟩ := h
  refine ⟨T, D, h1.below hb, h2.trans (hb.mono h2.size), h3, h4, fun x hx => ⟨(h5 x hx).1, (h5 x hx).2.1, ?_⟩⟩
  have := (h5 x hx).2.2
  rw [hb.block x.1 (Array.getElem?_eq_some_iff.1 this).1]; exact this
/-- a new block, which is the disk's no more than the others -/
theorem StA.alloc (h : StA w0 p nm dat lo hi X w) (ob : Obj) : StA w0 p nm dat lo hi ((w.heap.size, ob) :: X) (w.alloc ob) := by
  have hb := (Below.refl w.heap.size w).alloc (Nat.le_refl _) ob
  obtain ⟨T, D, h1, h2, h3, h4, h5⟩ := h.below hb
  have h1' := h
  obtain ⟨T', D', g1, g2, g3, g4, g5⟩ := h
  refine ⟨T', D', g1.below hb, g2.trans (hb.mono g2.size), g3, g4, fun x hx => ?_⟩
  rcases List.mem_cons.1 hx with rfl | hx
  · refine ⟨?_, g2.size, heap_alloc_new w ob⟩
    cases ht : T' w.heap.size with
    | none => rfl
    | some y => have := g1.bound w.heap.size (by rw [ht]; simp); omega
  · refine ⟨(g5 x hx).1, (g5 x hx).2.1, ?_⟩
    have := (g5 x hx).2.2
    show (w.alloc ob).heap[x.1]? = _
    rw [hb.block x.1 (Array.getElem?_eq_some_iff.1 this).1]; exact this
theorem StA.drewN (h : StA w0 p nm dat lo hi X w) (n : Nat) : StA w0 p nm dat lo hi X (w.drewN n) := h.below ⟨rfl, rfl, rfl, Nat.le_refl _, fun _ _ => rfl⟩
theorem StA.drew (h : StA w0 p nm dat lo hi X w) : StA w0 p nm dat lo hi X w.drew := h.below ⟨rfl, rfl, rfl, Nat.le_refl _, fun _ _ => rfl⟩
/-- one of the blocks beside it changes, the others do not -/
theorem StA.turn {g : Nat} {ob : Obj} (h : StA w0 p nm dat lo hi ((g, ob) :: X) w) (hg : ∀ x ∈ X, x.1 ≠ g) (hk : Kept (fun k => k = g) w w') : StA w0 p nm dat lo hi X w' := by
  obtain ⟨T, D, h1, h2, h3, h4, h5⟩ := h
  have hgn := h5 (g, ob) (List.mem_cons_self ..)
  refine ⟨T, D, h1.kept hk (fun k e => by rw [e]; exact hgn.1), h2.trans (hk.below h2.size (fun x e => by rw [e]; exact hgn.2.1)), h3, h4, fun x hx => ?_⟩
  have hx5 := h5 x (List.mem_cons_of_mem _ hx)
  refine ⟨hx5.1, hx5.2.1, ?_⟩
  rw [hk.block x.1 (Array.getElem?_eq_some_iff.1 hx5.2.2).1 (hg x hx)]
  exact hx5.2.2
/-- an operation of the disk -/
theorem StA.does {f : FuncId} {args : Array Value} {R : DV → Int → DV → Prop} (h : StA w0 p nm dat o o X w) (ho1 : 0 ≤ o) (ho2 : o ≤ 100000)
    (hc : ∀ T D, DiskAt w p T D → (∀ x ∈ X, T x.1 = none) → (∀ k, T k ≠ none → w0.heap.size ≤ k) → 0 ≤ D.ops → D.ops ≤ 1000000000 → D.left ≤ 9223372036854775807 → Calls Try.prog f args w (Does w p T (R D)))
    (hR : ∀ D e D2, Still nm dat o o D → R D e D2 → Still nm dat o (o + 1) D2) :
    Calls Try.prog f args w fun r w' => (∃ e : Int, r = .returned (.int .i64 e)) ∧ Hid (StA w0 p nm dat o (o + 1) X w') := by
  obtain ⟨T, D, h1, h2, h3, h4, h5⟩ := h
  have l1 := h4.low
  have l2 := h4.high
  have l3 := h4.left
  refine (hc T D h1 (fun x hx => (h5 x hx).1) h3 (by omega) (by omega) (by omega)).mono ?_
  rintro r w' ⟨e, D2, rfl, hR2, hA⟩
  have hA' := hA
  obtain ⟨T2, g2, k2, s2⟩ := hA
  refine ⟨⟨e, rfl⟩, T2, D2, g2, h2.trans (k2.below h2.size (fun x hx => h3 x hx)), fun k hk => ?_, hR D e D2 h4 hR2, fun x hx => ?_⟩
  · rcases s2 k hk with q | q
    · exact h3 k q
    · have := h2.size; omega
  · have hx5 := h5 x hx
    have hlt := (Array.getElem?_eq_some_iff.1 hx5.2.2).1
    refine ⟨?_, hx5.2.1, ?_⟩
    · cases ht : T2 x.1 with
      | none => rfl
      | some y =>
        rcases s2 x.1 (by rw [ht]; simp) with q | q
        · exact absurd hx5.1 q
        · omega
    · rw [k2.block x.1 hlt (fun q => q hx5.1)]; exact hx5.2.2
end
end Go.Proofs.Ytddhhgbbeeeieaa
