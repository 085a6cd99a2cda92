/- VfsNone holds: a disk that no call made does nothing, whatever it is asked. Conditions: none. -/
import Derived.Test.YtfpmhmblepjdgaaVfsNil
import Derived.Test.YtfpmhmblepjdgaaVfsNames
import Derived.Lib.SmallJoins
import Derived.Deep.Fields
set_option maxRecDepth 100000
namespace Go.Proofs.Ytfpmhmblepjdgaa
open Go.Joins Go.ChangeShapes Go.WideShapes Go.ChangeAt Go.RowKit Go.Deep
open Go.ChangeMaps (open_string shut_string)

section
variable {H : Type} {enc : TypeId × Value → H} {P : Program} {w : World} {base : Nat} {spare : Nat → Bool} {held : Bool}
theorem open_agg7 {r : Reach} {b0 : Nat} {t : TypeId} {f0 f1 f2 f3 f4 f5 f6 : Field} {v : Value} {d : DataW H} {p : List MemPlace} (hs : P.underlying t = some (.struct #[f0, f1, f2, f3, f4, f5, f6])) (hone : oneCellFields P #[f0, f1, f2, f3, f4, f5, f6] = true) (hC : P.cellsOf t = 7)
    (hv : Value.okWide P w r b0 t v) (h : DataW.Trod enc P w base spare held t v d p) :
    ∃ (v0 v1 v2 v3 v4 v5 v6 : Value) (y0 y1 y2 y3 y4 y5 y6 : DataW H × List MemPlace) (n : Nat), v = .agg #[v0, v1, v2, v3, v4, v5, v6] ∧
      DataW.trod enc P w base spare held n f0.type [v0] = some y0 ∧ DataW.trod enc P w base spare held n f1.type [v1] = some y1 ∧ DataW.trod enc P w base spare held n f2.type [v2] = some y2 ∧ DataW.trod enc P w base spare held n f3.type [v3] = some y3 ∧ DataW.trod enc P w base spare held n f4.type [v4] = some y4 ∧ DataW.trod enc P w base spare held n f5.type [v5] = some y5 ∧ DataW.trod enc P w base spare held n f6.type [v6] = some y6 := by
  obtain ⟨cs, rfl, hsz⟩ := okWide_struct hs hv
  obtain ⟨l⟩ := cs
  match l, hsz.trans hC with
  | [c0, c1, c2, c3, c4, c5, c6], _ =>
    obtain ⟨fuel, hf⟩ := h
    obtain ⟨xs, n, _, hx, _, hlen, hg⟩ := DataW.trod_struct hs hf
    obtain ⟨o0, k0⟩ := hone_of hone 0 f0 rfl
    obtain ⟨o1, k1⟩ := hone_of hone 1 f1 rfl
    obtain ⟨o2, k2⟩ := hone_of hone 2 f2 rfl
    obtain ⟨o3, k3⟩ := hone_of hone 3 f3 rfl
    obtain ⟨o4, k4⟩ := hone_of hone 4 f4 rfl
    obtain ⟨o5, k5⟩ := hone_of hone 5 f5 rfl
    obtain ⟨o6, k6⟩ := hone_of hone 6 f6 rfl
    match xs, hlen with
    | [y0, y1, y2, y3, y4, y5, y6], _ =>
      exact ⟨c0, c1, c2, c3, c4, c5, c6, y0, y1, y2, y3, y4, y5, y6, n, rfl, by simpa [Value.cells, o0, k0] using hg 0 f0 rfl, by simpa [Value.cells, o1, k1] using hg 1 f1 rfl, by simpa [Value.cells, o2, k2] using hg 2 f2 rfl, by simpa [Value.cells, o3, k3] using hg 3 f3 rfl, by simpa [Value.cells, o4, k4] using hg 4 f4 rfl, by simpa [Value.cells, o5, k5] using hg 5 f5 rfl, by simpa [Value.cells, o6, k6] using hg 6 f6 rfl⟩
end

theorem index53 (x0 x1 : Option Addr) (w : World) : (Instr.index 53 (.agg #[.pointer x0, .pointer x1]) (.int .i64 0)).run Try.prog w = .ok (.pointer x0) w := by kernel_rfl
theorem index53b (x0 x1 : Option Addr) (w : World) : (Instr.index 53 (.agg #[.pointer x0, .pointer x1]) (.int .i64 1)).run Try.prog w = .ok (.pointer x1) w := by kernel_rfl

/-- what is known in a round of the loop -/
structure NoneEnv (w2 w : World) (A : Nat) (k n m : Int) (a b : ByteArray) (da : Option Addr) (dn dc : Nat) (ka : Option Addr) (kn kc : Nat) (x : Option Addr) : Prop where
  below : Below w2.heap.size w2 w
  row : w.heap[A]? = some (.cells #[.int .i64 k, .string a, .string b, .int .i64 n, .int .i64 m, .slice da dn dc, .slice ka kn kc] 32 (0, 0))
  no : NoD w x

theorem NoneEnv.step {w2 w w' : World} {A : Nat} {k n m : Int} {a b : ByteArray} {da : Option Addr} {dn dc : Nat} {ka : Option Addr} {kn kc : Nat} {x : Option Addr} (h : NoneEnv w2 w A k n m a b da dn dc ka kn kc x) (hb : Below w.heap.size w w') : NoneEnv w2 w' A k n m a b da dn dc ka kn kc x :=
  ⟨h.below.trans (hb.mono h.below.size), (hb.block A (Array.getElem?_eq_some_iff.1 h.row).1).trans h.row, h.no.below hb⟩
theorem NoneEnv.cells {w2 w : World} {A : Nat} {k n m : Int} {a b : ByteArray} {da : Option Addr} {dn dc : Nat} {ka : Option Addr} {kn kc : Nat} {x : Option Addr} (h : NoneEnv w2 w A k n m a b da dn dc ka kn kc x) :
    w.cell? ⟨A, 1, none⟩ = some (.string a) ∧ w.cell? ⟨A, 2, none⟩ = some (.string b) ∧ w.cell? ⟨A, 3, none⟩ = some (.int .i64 n) ∧ w.cell? ⟨A, 4, none⟩ = some (.int .i64 m) ∧ w.cell? ⟨A, 5, none⟩ = some (.slice da dn dc) ∧ w.cell? ⟨A, 6, none⟩ = some (.slice ka kn kc) := by
  refine ⟨?_, ?_, ?_, ?_, ?_, ?_⟩ <;> (rw [cell_of_row w A _ _ _ _ h.row]; rfl)

set_option maxHeartbeats 1600000 in
theorem none_walk (k n m : Int) (a b : ByteArray) (da : Option Addr) (dn dc : Nat) (ka : Option Addr) (kn kc : Nat) (w : World) :
    Calls Try.prog 7 #[.agg #[.int .i64 k, .string a, .string b, .int .i64 n, .int .i64 m, .slice da dn dc, .slice ka kn kc]] w fun e w' => e = .returned (.bool true) ∧ Below w.heap.size w w' := by
  have i0 := index53
  have i1 := index53b
  go_enter Try.func7, Try.ntmps7
  go_wp2_with fail
  generalize hw2 : World.alloc (World.alloc w _) _ = w2
  have ha := alloc2 w (.cells #[.int .i64 k, .string a, .string b, .int .i64 n, .int .i64 m, .slice da dn dc, .slice ka kn kc] 32) (.cells #[.map none, .bool false, .int .i64 0, .int .i64 0, .slice none 0 0] 52)
  have hb0 : Below w.heap.size w w2 := by rw [← hw2]; exact ((Below.refl _ w).alloc (Nat.le_refl _) _).alloc (by simp) _
  rw [hw2] at ha
  have hz : w2.cell? ⟨w.heap.size + 1, 0, none⟩ = some (.map none) := by rw [cell_of_row w2 _ _ _ _ _ ha.2]; rfl
  have HE0 := Lib.hid (fun x (hx : NoD w2 x) => (⟨Below.refl _ _, ha.1, hx⟩ : NoneEnv w2 w2 w.heap.size k n m a b da dn dc ka kn kc x))
  have HB0 := Lib.hid hb0
  have HZ := Lib.hid hz
  clear hw2 ha hb0 hz
  go_loopw [5, 6, 7, 8, 9, 11] (fun _ _ _ _ _ i wr => ∃ j : Nat, j ≤ 2 ∧ i = .int .i64 j ∧ Hid (Below w2.heap.size w2 wr)) (fun _ _ _ _ _ i _ => 2 - (intOf i).toNat)
  case atStart => exact ⟨0, by omega, rfl, Below.refl _ _⟩
  case round =>
    obtain ⟨j, hj, rfl, HB⟩ := hrel
    by_cases hlt : j < 2
    · have hj2 : j = 0 ∨ j = 1 := by omega
      rcases hj2 with rfl | rfl
      · have E := Lib.hid (show NoneEnv w2 wr w.heap.size k n m a b da dn dc ka kn kc none from ⟨HB.out, (HB.out.block _ (Array.getElem?_eq_some_iff.1 (HE0.out none (.inl rfl)).row).1).trans (HE0.out none (.inl rfl)).row, .inl rfl⟩)
        obtain ⟨c1, c2, c3, c4, c5, c6⟩ := E.out.cells
        go_wp2_with (first
          | (go_at_call 21; refine (Read_no E.out.no _).mono ?_; rintro e w' ⟨rfl, hb⟩; have E := Lib.hid (E.out.step hb); clear hb; obtain ⟨c1, c2, c3, c4, c5, c6⟩ := E.out.cells)
          | (go_at_call 25; refine (Pending_no E.out.no _).mono ?_; rintro e w' ⟨rfl, hb⟩; have E := Lib.hid (E.out.step hb); clear hb; obtain ⟨c1, c2, c3, c4, c5, c6⟩ := E.out.cells)
          | (go_at_call 20; refine (Start_no E.out.no).mono ?_; rintro e w' ⟨rfl, rfl⟩)
          | (go_at_call 15; refine (Create_no E.out.no _).mono ?_; rintro e w' ⟨rfl, hb⟩; have E := Lib.hid (E.out.step hb); clear hb; obtain ⟨c1, c2, c3, c4, c5, c6⟩ := E.out.cells)
          | (go_at_call 16; refine (Write_no E.out.no _ _ _ _).mono ?_; rintro e w' ⟨rfl, hb⟩; have E := Lib.hid (E.out.step hb); clear hb; obtain ⟨c1, c2, c3, c4, c5, c6⟩ := E.out.cells)
          | (go_at_call 17; refine (Sync_no E.out.no _).mono ?_; rintro e w' ⟨rfl, hb⟩; have E := Lib.hid (E.out.step hb); clear hb; obtain ⟨c1, c2, c3, c4, c5, c6⟩ := E.out.cells)
          | (go_at_call 23; refine (Rename_no E.out.no _ _).mono ?_; rintro e w' ⟨rfl, hb⟩; have E := Lib.hid (E.out.step hb); clear hb; obtain ⟨c1, c2, c3, c4, c5, c6⟩ := E.out.cells)
          | (go_at_call 26; refine (Remove_no E.out.no _).mono ?_; rintro e w' ⟨rfl, hb⟩; have E := Lib.hid (E.out.step hb); clear hb; obtain ⟨c1, c2, c3, c4, c5, c6⟩ := E.out.cells)
          | (go_at_call 27; refine (Spoil_no E.out.no _ _ _).mono ?_; rintro e w' ⟨rfl, hb⟩; have E := Lib.hid (E.out.step hb); clear hb; obtain ⟨c1, c2, c3, c4, c5, c6⟩ := E.out.cells)
          | (go_at_call 18; refine (Cut_no E.out.no _ _).mono ?_; rintro e w' ⟨rfl, rfl⟩)
          | (go_at_call 19; refine (On_no E.out.no).mono ?_; rintro e w' ⟨rfl, rfl⟩)
          | (go_at_call 28; refine (Ops_no E.out.no).mono ?_; rintro e w' ⟨rfl, rfl⟩)
          | (go_at_call 24; refine (List_no E.out.no).mono ?_; rintro e w' ⟨rfl, rfl⟩))
        go_roundw
        case rel => exact ⟨1, by omega, rfl, E.out.below⟩
        case measure => simp [intOf]
      · have hx : NoD w2 (some ⟨w.heap.size + 1, 0, none⟩) := .inr ⟨_, rfl, HZ.out⟩
        have E := Lib.hid (show NoneEnv w2 wr w.heap.size k n m a b da dn dc ka kn kc (some ⟨w.heap.size + 1, 0, none⟩) from ⟨HB.out, (HB.out.block _ (Array.getElem?_eq_some_iff.1 (HE0.out _ hx).row).1).trans (HE0.out _ hx).row, hx.below HB.out⟩)
        clear hx
        obtain ⟨c1, c2, c3, c4, c5, c6⟩ := E.out.cells
        go_wp2_with (first
          | (go_at_call 21; refine (Read_no E.out.no _).mono ?_; rintro e w' ⟨rfl, hb⟩; have E := Lib.hid (E.out.step hb); clear hb; obtain ⟨c1, c2, c3, c4, c5, c6⟩ := E.out.cells)
          | (go_at_call 25; refine (Pending_no E.out.no _).mono ?_; rintro e w' ⟨rfl, hb⟩; have E := Lib.hid (E.out.step hb); clear hb; obtain ⟨c1, c2, c3, c4, c5, c6⟩ := E.out.cells)
          | (go_at_call 20; refine (Start_no E.out.no).mono ?_; rintro e w' ⟨rfl, rfl⟩)
          | (go_at_call 15; refine (Create_no E.out.no _).mono ?_; rintro e w' ⟨rfl, hb⟩; have E := Lib.hid (E.out.step hb); clear hb; obtain ⟨c1, c2, c3, c4, c5, c6⟩ := E.out.cells)
          | (go_at_call 16; refine (Write_no E.out.no _ _ _ _).mono ?_; rintro e w' ⟨rfl, hb⟩; have E := Lib.hid (E.out.step hb); clear hb; obtain ⟨c1, c2, c3, c4, c5, c6⟩ := E.out.cells)
          | (go_at_call 17; refine (Sync_no E.out.no _).mono ?_; rintro e w' ⟨rfl, hb⟩; have E := Lib.hid (E.out.step hb); clear hb; obtain ⟨c1, c2, c3, c4, c5, c6⟩ := E.out.cells)
          | (go_at_call 23; refine (Rename_no E.out.no _ _).mono ?_; rintro e w' ⟨rfl, hb⟩; have E := Lib.hid (E.out.step hb); clear hb; obtain ⟨c1, c2, c3, c4, c5, c6⟩ := E.out.cells)
          | (go_at_call 26; refine (Remove_no E.out.no _).mono ?_; rintro e w' ⟨rfl, hb⟩; have E := Lib.hid (E.out.step hb); clear hb; obtain ⟨c1, c2, c3, c4, c5, c6⟩ := E.out.cells)
          | (go_at_call 27; refine (Spoil_no E.out.no _ _ _).mono ?_; rintro e w' ⟨rfl, hb⟩; have E := Lib.hid (E.out.step hb); clear hb; obtain ⟨c1, c2, c3, c4, c5, c6⟩ := E.out.cells)
          | (go_at_call 18; refine (Cut_no E.out.no _ _).mono ?_; rintro e w' ⟨rfl, rfl⟩)
          | (go_at_call 19; refine (On_no E.out.no).mono ?_; rintro e w' ⟨rfl, rfl⟩)
          | (go_at_call 28; refine (Ops_no E.out.no).mono ?_; rintro e w' ⟨rfl, rfl⟩)
          | (go_at_call 24; refine (List_no E.out.no).mono ?_; rintro e w' ⟨rfl, rfl⟩))
        go_roundw
        case rel => exact ⟨2, by omega, rfl, E.out.below⟩
        case measure => simp [intOf]
    · have : j = 2 := by omega
      subst this
      go_wp2_with (go_at_call 12; refine (lives_any _).mono ?_; rintro e w' ⟨rfl, hb⟩; have HL := Lib.hid hb; clear hb)
      go_ret
      exact ⟨rfl, HB0.out.trans ((HB.out.mono HB0.out.size).trans (HL.out.mono (Nat.le_trans HB0.out.size HB.out.size)))⟩

theorem none_lifted (os : Os) (started : os.Started) (H : Type) (enc : TypeId × Value → H) :
    ReturnsInHanded {} Try.checked os 7 .any (Rows.vfsNoneSpec.pre6 enc Try.prog Try.f7 Rows.vfsNoneRow.domain false) (Rows.vfsNoneSpec.post enc Try.prog Try.f7 false true false false) := by
  refine returnsInHanded_of_change (C := Try.checked) own started (by kernel_rfl) Try.func7
    (ChangeSpec.witness6 (enc := enc) (C := Try.checked) false ⟨#[], #[.agg #[.int .i64 0, .string ByteArray.empty, .string ByteArray.empty, .int .i64 0, .int .i64 0, .slice none 0 0, .slice none 0 0]], []⟩ 8 (by kernel_rfl) (by kernel_rfl) (by kernel_rfl) (by kernel_rfl)) ?_
  intro W base args ds gs before hval0 hW hcnd _
  have hval : ∀ (j : Nat) t v, Try.f7.params[j]? = some t → args[j]? = some v → Value.okWide Try.prog W .any base t v := hval0
  have hW' := hW
  obtain ⟨p, q, hA0, hV, rfl, hfz, hnd⟩ := hW
  have hA : DataW.TrodAll enc Try.prog W 0 (fun _ => true) true Try.f7.params.toList args.toList ds p := hA0
  rw [Try.params7] at hA hval
  obtain ⟨v0, vs0, d0, ds0, p0, q0, hargs, rfl, rfl, h0, r0⟩ := trodAll_cons hA
  obtain ⟨rfl, rfl, rfl⟩ := trodAll_nil r0
  obtain rfl : args = #[v0] := by cases args; simp_all
  obtain ⟨rfl, rfl⟩ := trodVars_none hV
  have k0 := h0
  have lt0 : ∀ x ∈ p0, x.block < W.heap.size := by obtain ⟨m, hm⟩ := k0; exact DataW.trod_lt m _ _ _ hm
  obtain ⟨x0, x1, x2, x3, x4, x5, x6, y0, y1, y2, y3, y4, y5, y6, nn, rfl, t0, t1, t2, t3, t4, t5, t6⟩ := open_agg7 (Try.underlying32) (by kernel_rfl) (by kernel_rfl) (hval 0 32 v0 rfl rfl) h0
  obtain ⟨b0, e0, _, _⟩ := DataW.trod_int Try.underlying3 t0
  obtain ⟨b1, e1, _, _⟩ := DataW.trod_string Try.underlying9 t1
  obtain ⟨b2, e2, _, _⟩ := DataW.trod_string Try.underlying9 t2
  obtain ⟨b3, e3, _, _⟩ := DataW.trod_int Try.underlying3 t3
  obtain ⟨b4, e4, _, _⟩ := DataW.trod_int Try.underlying3 t4
  obtain ⟨a5, l5, c5, e5⟩ := slice_form Try.underlying30 t5
  obtain ⟨a6, l6, c6, e6⟩ := slice_form Try.underlying27 t6
  simp only [List.cons.injEq, and_true] at e0 e1 e2 e3 e4 e5 e6
  subst e0 e1 e2 e3 e4 e5 e6
  clear hA0 hval0 t0 t1 t2 t3 t4 t5 t6
  refine (none_walk b0 b3 b4 b1 b2 a5 l5 c5 a6 l6 c6 W).mono fun e W' ⟨he, bel⟩ => ?_
  subst he
  exact ⟨_, rfl, _, _, _, [], _, [], hW', trodAll_mk1 (shut_bool Try.underlying4 _), (trodAll_cons_mk (Below.trod laidOut (by kernel_rfl) (of_decide_eq_true (by kernel_rfl)) k0 bel lt0) trodAll_mk0), rfl, bel.frame _, fun h => by cases h⟩

/-- the statement -/
theorem none_holds : Rows.VfsNoneSaid :=
  OpenClaim.holds_of_wide 7 Try.f7 rfl rfl rfl rfl rfl rfl rfl ⟨rfl, rfl, rfl, rfl, rfl⟩ rfl rfl rfl rfl rfl (by kernel_rfl) Try.func7 (by kernel_rfl)
    (of_decide_eq_true (by kernel_rfl)) (by unfold Func.isWrapper; first | (rw [if_pos (by decide +kernel)]; kernel_rfl) | (rw [if_neg (by decide +kernel)]; exact ⟨rfl, rfl⟩))
    (fun os started H enc _ => none_lifted os started H enc)
#print axioms none_holds
end Go.Proofs.Ytfpmhmblepjdgaa
