/- The texts CodecUndeltas, one behind the other; each one's own comment says what it holds. -/
import Derived.Test.YtcpfkinjglnabaaPackAR
import Derived.Test.YtcpfkinjglnabaaPackAJ
import Derived.Test.YtcpfkinjglnabaaPackAQ
import Derived.Test.YtcpfkinjglnabaaPackAP
import Derived.Test.YtcpfkinjglnabaaPackAT
import Derived.Test.YtcpfkinjglnabaaPackAK
/- Contracts of codec.readDeltas and codec.Undeltas: the ints whose differences bytes are, or ErrCorrupt. Conditions: at most 300000 bytes. -/
set_option maxRecDepth 100000
namespace Go.Proofs.Ytcpfkinjglnabaa
open Go.RowKit Go.Maps Go.Sort
attribute [local go_sem] Oper.semAt_some

/-- one difference more -/
def undStep (p : List Int × Int) (u : Nat) : List Int × Int := (p.1 ++ [IntKind.i64.wrap (p.2 + zagN u)], IntKind.i64.wrap (p.2 + zagN u))
def und (l : List Nat) : List Int × Int := l.foldl undStep ([], 0)
theorem und_snoc (l : List Nat) (u : Nat) : und (l ++ [u]) = undStep (und l) u := by simp [und, List.foldl_append]
theorem und_len0 : ∀ (l : List Nat) (p : List Int × Int), (l.foldl undStep p).1.length = p.1.length + l.length
  | [], p => rfl
  | u :: r, p => by rw [List.foldl_cons, und_len0 r, undStep, List.length_append, List.length_cons]; simp; omega
theorem und_len (l : List Nat) : (und l).1.length = l.length := by have := und_len0 l ([], 0); simpa [und] using this
theorem wrap_bd (n : Int) : -9223372036854775808 ≤ IntKind.i64.wrap n ∧ IntKind.i64.wrap n < 9223372036854775808 := by rw [IntKind.wrap_i64]; omega
theorem und_bd0 : ∀ (l : List Nat) (p : List Int × Int), -9223372036854775808 ≤ p.2 ∧ p.2 < 9223372036854775808 → -9223372036854775808 ≤ (l.foldl undStep p).2 ∧ (l.foldl undStep p).2 < 9223372036854775808
  | [], p, h => h
  | u :: r, p, _ => by rw [List.foldl_cons]; exact und_bd0 r _ (wrap_bd _)
theorem und_bd (l : List Nat) : -9223372036854775808 ≤ (und l).2 ∧ (und l).2 < 9223372036854775808 := und_bd0 l ([], 0) ⟨by decide, by decide⟩
theorem und_walk (a : Int) (z : Int) : IntKind.i64.wrap (IntKind.u64.wrap (IntKind.u64.wrap a + IntKind.u64.wrap z)) = IntKind.i64.wrap (a + z) := by
  rw [IntKind.wrap_u64, IntKind.wrap_u64, IntKind.wrap_u64, IntKind.wrap_i64, IntKind.wrap_i64]; omega

theorem app64 {w : World} {B : Nat} {v : Value} {xs : List Int} (hown : w.ownsRow B 3 1 v xs.length (i64s xs)) (hB : B ≤ w.heap.size) {sv : Value} {l : List Int} (hs : Holds w sv (i64s l)) (hlen : xs.length + l.length ≤ 17592186044416) :
    ∃ v' w', (∀ ty, (Builtin.append_ #[25, 25] ty #[v, sv]).run Try.prog w = .ok v' w') ∧ w'.ownsRow B 3 1 v' (xs ++ l).length (i64s (xs ++ l)) ∧ w.grownBy w' v.ownBlock ∧ (v'.ownBlock = v.ownBlock ∨ v'.ownBlock = some w.heap.size) := by
  have := app_any (P := Try.prog) Try.underlying25 info64 (by omega) rfl (by rw [i64s_len]; exact hown) hB hs (i64s_one l) (by rw [i64s_len, i64s_len]; exact hlen)
  rw [← i64s_append, i64s_len] at this
  exact this

/-- where readDeltas stands behind k numbers: the box of its list at w.heap.size, that of the int ahead, that of the bytes -/
structure UndJ (w : World) (ns : List Nat) (bv : Value) (k : Nat) (X : World) : Prop where
  row : ∃ v, X.heap[w.heap.size]? = some (.cells #[v] 25 (0, 0)) ∧ X.ownsRow (w.heap.size + 5) 3 1 v (und (ns.take k)).1.length (i64s (und (ns.take k)).1)
  ahead : X.heap[w.heap.size + 1]? = some (.cells #[.int .i64 (und (ns.take k)).2] 3 (0, 0))
  box : X.heap[w.heap.size + 2]? = some (.cells #[bv] 68 (0, 0))
  below : Below w.heap.size w X
theorem own_block {w : World} {base : Nat} {e : TypeId} {v : Value} {n : Nat} {xs : List Value} (h : w.ownsRow base e 1 v n xs) : ∀ g, v.ownBlock = some g → base ≤ g ∧ g < w.heap.size := fun g hg => h.lt g hg
theorem UndJ.ab {w : World} {ns : List Nat} {bv : Value} : Abides (w.heap.size + 3) 2 (UndJ w ns bv) := by
  intro k X Y row h hg hr
  have keep : ∀ {b : Nat} {o : Obj}, b < w.heap.size + 3 → X.heap[b]? = some o → Y.heap[b]? = some o := fun {b o} hb ho => (hg.block b (Array.getElem?_eq_some_iff.1 ho).1 (fun e => by have := (hr b e.symm).1; omega)).trans ho
  obtain ⟨v, h1, h2⟩ := h.row
  refine ⟨⟨v, keep (by omega) h1, ownsRow_of_block h2 (fun g hgv => hg.block g (h2.lt g hgv).2 (fun e => ?_))⟩, keep (by omega) h.ahead, keep (by omega) h.box, ?_⟩
  · obtain ⟨h3, h4 | ⟨o, ho, hc⟩⟩ := hr g e.symm
    · have := (h2.lt g hgv).1; omega
    · have := own_cells h2 g o hgv ho
      rw [hc] at this; cases this
  · exact h.below.trans ⟨hg.os, hg.tape, hg.output, hg.size, fun b hb => hg.block b (by have := h.below.size; omega) (fun e => by have := (hr b e.symm).1; omega)⟩
theorem wpListIn_append_run {F : Fence} {n : Nat} {P : Program} {w w' : World} {ops : Array Oper} {rest : List Oper} {o : Oper} {a : Act} {Q : Exit → Act → World → Prop} {sv xv v' : Value} (hg : o.guard = none) (s x : Operand) (t : TypeId)
    (hop : o.op = .call { callee := .builtin .append, args := #[s, x], argTypes := #[t, t] }) (hs : a.eval s = sv) (hx : a.eval x = xv) (hrun : (Builtin.append_ #[t, t] o.type #[sv, xv]).run P w = .ok v' w')
    (hK : wpListIn F n P ops Q rest (a.put o.dst v') w') : wpListIn F n P ops Q (o :: rest) a w := by
  refine wpListIn_plain hg fun K hK' => ?_
  unfold Oper.wpIn
  refine ⟨?_, ?_⟩
  · simp [Oper.about, hop, resolve, Target.leads, Sem.run_pure]
  · rw [Oper.semAt_plain F _ _ (by rw [hop]; intro c hc'; cases hc')]
    simp [execOp, hop, resolve, invoke, builtin, hs, hx, hrun, Result.andThen]
    exact hK' _ _ hK
/-- one int more is written -/
theorem UndJ.step {w : World} {ns : List Nat} {bv : Value} {q : Nat} {X : World} {v : Value} {u : Nat} (h : UndJ w ns bv q X) (hu : ns[q]? = some u) (hlen : ns.length ≤ 300000)
    (hb : X.heap[w.heap.size]? = some (.cells #[v] 25 (0, 0))) (hrow : X.ownsRow (w.heap.size + 5) 3 1 v (und (ns.take q)).1.length (i64s (und (ns.take q)).1)) (hsz : w.heap.size + 5 ≤ X.heap.size) :
    ∃ v2 w2 B, (∃ va n vc, v2 = .slice va n vc) ∧ B = IntKind.i64.wrap ((und (ns.take q)).2 + zagN u) ∧ Hid (∀ ty, (Builtin.append_ #[25, 25] ty #[v, .slice (some ⟨X.heap.size, 0, none⟩) 1 1]).run Try.prog (((X.setCell ⟨w.heap.size + 1, 0, none⟩ (.int .i64 B)).alloc (.cells #[.int .i64 B] 3)).drew) = .ok v2 w2) ∧
      w2.cell? ⟨w.heap.size, 0, none⟩ = some v ∧ w2.frozen? ⟨w.heap.size, 0, none⟩ = false ∧ Hid (Held (w.heap.size + 3) 2 X (w2.setCell ⟨w.heap.size, 0, none⟩ v2) ∧ UndJ w ns bv (q + 1) (w2.setCell ⟨w.heap.size, 0, none⟩ v2)) := by
  obtain ⟨B, hB⟩ : ∃ B, B = IntKind.i64.wrap ((und (ns.take q)).2 + zagN u) := ⟨_, rfl⟩
  obtain ⟨hlt, hget⟩ := List.getElem?_eq_some_iff.1 hu
  have hsn : und (ns.take (q + 1)) = ((und (ns.take q)).1 ++ [B], B) := by
    rw [List.take_succ_eq_append_getElem hlt, hget, und_snoc, undStep, ← hB]
  obtain ⟨X2, hX2⟩ : ∃ X2, ((X.setCell ⟨w.heap.size + 1, 0, none⟩ (.int .i64 B)).alloc (.cells #[.int .i64 B] 3)).drew = X2 := ⟨_, rfl⟩
  have hs1 : (X.setCell ⟨w.heap.size + 1, 0, none⟩ (.int .i64 B)).heap.size = X.heap.size := by simp [World.setCell]
  have hs2 : X2.heap.size = X.heap.size + 1 := by rw [← hX2]; show ((X.setCell _ _).alloc _).heap.size = _; rw [World.size_alloc, hs1]
  have old : ∀ b, b ≠ w.heap.size + 1 → b < X.heap.size → X2.heap[b]? = X.heap[b]? := fun b h1 h2 => by
    rw [← hX2]
    exact (Below.heap_alloc _ _ _ (by rw [hs1]; exact h2)).trans (Below.heap_setCell X ⟨w.heap.size + 1, 0, none⟩ _ b h1)
  have hbox : X2.heap[w.heap.size + 1]? = some (.cells #[.int .i64 B] 3 (0, 0)) := by
    rw [← hX2]
    exact (Below.heap_alloc _ _ _ (by rw [hs1]; omega)).trans (heap_set (j := 0) h.ahead _)
  have hnew : X2.heap[X.heap.size]? = some (.cells #[.int .i64 B] 3 (0, 0)) := by
    rw [← hX2, ← hs1]; exact alloc1 _ _
  have hrow2 : X2.ownsRow (w.heap.size + 5) 3 1 v (und (ns.take q)).1.length (i64s (und (ns.take q)).1) := ownsRow_of_block hrow (fun g hg => old g (by have := (hrow.lt g hg).1; omega) (hrow.lt g hg).2)
  have hone : Holds X2 (.slice (some ⟨X.heap.size, 0, none⟩) 1 1) (i64s [B]) := Holds.of_heap hnew rfl 1 1 rfl (Nat.le_refl _)
  have hl0 : (und (ns.take q)).1.length ≤ 300000 := by rw [und_len, List.length_take]; omega
  obtain ⟨v2, w2, r, o, g, _⟩ := app64 hrow2 (by omega) hone (by simp; omega)
  have kept : ∀ b, b < w.heap.size + 5 → b ≠ w.heap.size + 1 → w2.heap[b]? = X.heap[b]? := fun b h1 h2 =>
    (g.block b (by omega) (fun e => by have := (hrow2.lt b e.symm).1; omega)).trans (old b h2 (by omega))
  have hb2 := (kept w.heap.size (by omega) (by omega)).trans hb
  have ha2 : w2.heap[w.heap.size + 1]? = some (.cells #[.int .i64 B] 3 (0, 0)) := (g.block _ (by omega) (fun e => by have := (hrow2.lt _ e.symm).1; omega)).trans hbox
  have hX2b : Below w.heap.size X X2 := by
    rw [← hX2]; exact (((Below.refl _ _).setCell (p := ⟨w.heap.size + 1, 0, none⟩) (by simp) _).alloc (by rw [hs1]; omega) _).drew
  have hbel : Below w.heap.size w w2 := (h.below.trans hX2b).trans ⟨g.os, g.tape, g.output, g.size, fun b hb => g.block b (by omega) (fun e => by have := (hrow2.lt b e.symm).1; omega)⟩
  have hs3 : (w2.setCell ⟨w.heap.size, 0, none⟩ v2).heap.size = w2.heap.size := by simp [World.setCell]
  obtain ⟨va, vc, hvf, _⟩ := ownsRow_form o
  refine ⟨v2, w2, B, ⟨_, _, _, hvf⟩, hB, Lib.hid (by rw [hX2]; exact r), by rw [cell_of_row _ _ _ _ _ _ hb2]; rfl, free_of_row hb2 0, Lib.hid ⟨⟨by rw [hs3]; have := g.size; omega, fun b h1 h2 => ?_⟩, ⟨⟨v2, heap_set (j := 0) hb2 v2, ?_⟩, ?_, ?_, hbel.setCell (p := ⟨w.heap.size, 0, none⟩) (Nat.le_refl _) _⟩⟩⟩
  · exact (Below.heap_setCell w2 ⟨w.heap.size, 0, none⟩ v2 b (by show b ≠ w.heap.size; omega)).trans (kept b (by omega) (by omega))
  · rw [hsn]
    exact ownsRow_of_block o (fun g2 hg2 => Below.heap_setCell w2 ⟨w.heap.size, 0, none⟩ v2 g2 (by have := (o.lt g2 hg2).1; show g2 ≠ w.heap.size; omega))
  · rw [hsn]; exact heap_other ha2 (by omega)
  · exact heap_other ((kept _ (by omega) (by omega)).trans h.box) (by omega)
set_option maxHeartbeats 1600000 in
theorem readDeltas_any {w : World} {bv : Value} {l : List UInt8} (h : Holds w bv (u8s l)) (hl : l.length ≤ 300000) :
    Calls Try.prog 126 #[bv] w fun e w' => ((numsOf l).2 = false ∧ ∃ v, e = .returned v ∧ Hid (w'.ownsRow w.heap.size 3 1 v (und (numsOf l).1).1.length (i64s (und (numsOf l).1).1) ∧ Below w.heap.size w w')) ∨ ((numsOf l).2 = true ∧ e = .panicked corrupt ∧ Below w.heap.size w w') := by
  have hmix : Try.prog.follows .mixedOrders = true := by kernel_rfl
  have H := Lib.hid h
  obtain ⟨a, c, hv, hc⟩ := h.form
  rw [u8s_len] at hv
  subst hv
  clear h hc
  refine calls_of_wpFor Try.func126 rfl ?_
  simp only [Try.ntmps126, List.size_toArray, List.length_cons, List.length_nil, Nat.reduceAdd, Nat.reduceSub, Array.replicate_succ, Array.replicate_zero, List.push_toArray, List.append_toArray, List.nil_append, List.cons_append]
  refine wpFor_then ?_
  gi_wp2_with fail
  refine wpFor_then ?_
  gi_wp2_with fail
  refine wpFor_then ?_
  gi_wp2_with fail
  refine wpFor_seq (wpFor_then ?_)
  gi_wp2_with fail
  refine ⟨trivial, rfl, (callsIn_wide.2 (numbers_any _ _ _ _)).mono ?_⟩
  rintro e w' ⟨rfl, rfl⟩
  gi_wp2_with fail
  refine wpFor_block ?_
  have hJ0 : UndJ w (numsOf l).1 (.slice a l.length c) 0 (((w.alloc (Obj.cells #[Value.slice none 0 0] 25)).alloc (Obj.cells #[Value.int IntKind.i64 0] 3)).alloc (Obj.cells #[Value.slice a l.length c] 68)) := by
    obtain ⟨a1, a2, a3⟩ := alloc3r w (Obj.cells #[Value.slice none 0 0] 25) (Obj.cells #[Value.int IntKind.i64 0] 3) (Obj.cells #[Value.slice a l.length c] 68)
    exact ⟨⟨_, a1, World.ownsRow_nil _ _ _ _⟩, a2, a3, (((Below.refl _ _).alloc (Nat.le_refl _) _).alloc (by simp) _).alloc (by simp; omega) _⟩
  have hps : (((w.alloc (Obj.cells #[Value.slice none 0 0] 25)).alloc (Obj.cells #[Value.int IntKind.i64 0] 3)).alloc (Obj.cells #[Value.slice a l.length c] 68)).heap.size = w.heap.size + 3 := by simp
  generalize ((w.alloc (Obj.cells #[Value.slice none 0 0] 25)).alloc (Obj.cells #[Value.int IntKind.i64 0] 3)).alloc (Obj.cells #[Value.slice a l.length c] 68) = W3 at *
  have HP := Lib.hid hps
  have hbd := nums_bd l
  have hseq := numbers_seq (w.heap.size + 1 + 1) l (by omega)
  obtain ⟨ns, hns⟩ : ∃ ns, (numsOf l).1 = ns := ⟨_, rfl⟩
  obtain ⟨bad, hbad⟩ : ∃ b, (numsOf l).2 = b := ⟨_, rfl⟩
  have hE : numsE l = ns.map numE := by rw [← hns]; rfl
  rw [hns] at hJ0 hbd ⊢
  rw [hbad, hE] at hseq
  rw [hbad]
  have HL : Hid (ns.length ≤ 300000) := Lib.hid (by omega)
  have HU := Lib.hid hbd.2
  have HLN := Lib.hid hl
  clear hns hbad hE hbd hl
  refine rangeP_law Try.func126 (gf := 142) (lb := #[Value.pointer (some { block := w.heap.size + 1 + 1, off := 0 })]) rfl (enters_of Try.func142 (by kernel_rfl) rfl)
    (m := 0) (encs := ns.map numE) (fun x hx => by obtain ⟨p, _, rfl⟩ := List.mem_map.1 hx; rfl) hseq
    (UndJ w ns (.slice a l.length c)) (fun ch X => (bad = true ∧ ch = corrupt) ∧ Below w.heap.size w X) (by rw [hps]; exact UndJ.ab) ?hJp (fun k X h => ⟨_, by rw [cell_of_row _ _ _ _ _ _ h.box]; rfl, H.out.below h.below⟩) hJ0
    (fun s X => UndJ w ns (.slice a l.length c) s.1 X ∧ ∃ u, ns[s.1]? = some u ∧
      s.2 = { tmps := #[Value.slice a l.length c, undef, Value.slice none 0 0, Value.pointer (some { block := w.heap.size, off := 0 }), Value.pointer (some { block := w.heap.size + 1, off := 0 }), Value.int .u64 (u : Int), Value.slice a l.length c,
          Value.func (Fn.func 142) #[] #[Value.pointer (some { block := w.heap.size + 1 + 1, off := 0 })], Value.int .u64 (u : Int),
          undef, undef, undef, undef, undef, undef, undef, undef, undef, undef, undef, undef], defers := [] }) ?hM ?assign ?body (fun hf X h => ⟨⟨hf, rfl⟩, h.below⟩) ?done ?pan
  case hJp =>
    rw [hps]
    intro s X Y row h hg hr
    exact ⟨h.1, h.2.trans ⟨hg.os, hg.tape, hg.output, hg.size, fun b hb => hg.block b (by have := h.2.size; omega) (fun e => by have := (hr b e.symm).1; omega)⟩⟩
  case hM =>
    rw [hps]
    intro s X Y row h hg hr
    exact ⟨UndJ.ab s.1 X Y row h.1 hg hr, h.2⟩
  case assign =>
    intro l' q hq X K h hK
    have hq2 : q < ns.length := by simpa using hq
    have e : (ns.map numE)[q] = #[Value.int .u64 (ns[q] : Int)] := by rw [List.getElem_map]; rfl
    have hget : ns[q]? = some ns[q] := List.getElem?_eq_getElem hq2
    rw [e]
    generalize ns[q] = u at hget ⊢
    have HK := Lib.hid hK
    have HG := Lib.hid hget
    have HP2 := Lib.hid h
    clear hK e hget h
    simp only [List.zip_toArray, List.zip_cons_cons, List.zip_nil_right, List.foldl_toArray, List.foldl_cons, List.foldl_nil, List.setIfInBounds_toArray, List.set_cons_succ, List.set_cons_zero]
    gi_wp2
    exact HK.out _ _ (Held.refl _ _ _) ⟨HP2.out, u, HG.out, rfl⟩
  case body =>
    rintro l' q hq a₁ X ⟨h, u, hget, rfl⟩ hsz
    obtain ⟨v, hb, hrow⟩ := h.row
    have hub := HU.out u (List.mem_of_getElem? hget)
    have hc1 : X.cell? ⟨w.heap.size + 1, 0, none⟩ = some (.int .i64 (und (ns.take q)).2) := by rw [cell_of_row _ _ _ _ _ _ h.ahead]; rfl
    have hc0 : X.cell? ⟨w.heap.size, 0, none⟩ = some v := by rw [cell_of_row _ _ _ _ _ _ hb]; rfl
    have hf1 := free_of_row h.ahead 0
    have hf0 := free_of_row hb 0
    have KZ := fun w => (Zag_any u w hub).mono fun _ _ ⟨h1, h2⟩ => (⟨h1, h2.symm⟩ : _ ∧ _ = w)
    obtain ⟨v2, w2, B, ⟨va2, n2, vc2, rfl⟩, hBe, HRUN, hc2, hf2, HST⟩ := h.step hget HL.out hb hrow (by have := HP.out; omega)
    obtain ⟨va, vc, hvf, _⟩ := ownsRow_form hrow
    have hw := und_walk (und (ns.take q)).2 (zagN u)
    rw [← hBe] at hw
    have HZ := Lib.hid hsz
    clear h hb hrow hget hub hsz hBe
    generalize (und (ns.take q)).2 = A at hc1 hw
    generalize zagN u = Z at KZ hw
    generalize (und (ns.take q)).1.length = L at hvf
    subst hvf
    gi_wp2_with fail
    refine round_still_tail 7 hmix (by decide +kernel) (fun ⟨_, _, h⟩ => h) (by kernel_rfl) ?_
    simp only [List.take_succ_cons, List.take_zero, List.drop_succ_cons, List.drop_zero]
    still_step
    still_step
    still_step
    still_call (KZ _)
    repeat still_step
    try refine wpStill_nil ?_
    change wpList _ _ _ _ _ X.drew
    go_wp2
    gi_wp2_with (gi_at_builtin; refine wpListIn_append_run rfl _ _ 25 rfl rfl rfl (HRUN.out _) ?_)
    rw [hps]
    exact HST.out
  case done =>
    intro hfin X h hX hD
    rw [List.length_map] at h
    obtain ⟨v, hb, hrow⟩ := h.row
    rw [List.take_length] at hrow
    have hcell : X.cell? ⟨w.heap.size, 0, none⟩ = some v := by rw [cell_of_row _ _ _ _ _ _ hb]; rfl
    have HX := Lib.hid (And.intro h hD)
    have HR := Lib.hid hrow
    have HF := Lib.hid hfin
    clear h hD hb hrow hX hfin
    show WpFor _ _ _ _ _ _
    refine .of_wpIn ?_
    gi_wp2_with fail
    refine leave_marks (v := v) (B := w.heap.size) (fun w' => by simp [results, Try.results126, go_sem]) _ X ⟨_, rfl, by omega, by rw [← hps]; exact HX.out.2, (fun _ h => nomatch h), trivial⟩ (fun W' hs => ?_)
    refine .inl ⟨HF.out, v, rfl, Lib.hid ⟨?_, HX.out.1.below.trans hs.below⟩⟩
    refine ownsRow_of_block (ownsRow_rebase HR.out (fun g hg => by have := (HR.out.lt g hg).1; omega)) (fun g hg => hs.block g (.inr (fun e => ?_)))
    have := own_cells HR.out g _ hg e
    cases this
  case pan =>
    rintro ch X ⟨⟨hf, rfl⟩, hbel⟩ hD
    exact leave_mark_panic hD (.inr ⟨hf, rfl, ⟨hbel.os, hbel.tape, hbel.output, by simp; exact hbel.size, fun k hk => (World.putObj_heap_other (by omega)).trans (hbel.block k hk)⟩⟩)
theorem und_inner_ok {w : World} {b : Nat} {x : Value} (h1 : w.cell? ⟨b, 0, none⟩ = some x) {Q : Value → World → Prop}
    (h : Calls Try.prog 126 #[x] w fun e w' => ∃ v, e = .returned v ∧ Hid (Q v w')) :
    Calls Try.prog 125 #[.pointer (some ⟨b, 0, none⟩)] w fun e w' => ∃ v, e = .returned v ∧ Hid (Q v w') := by
  have HC := Lib.hid h
  clear h
  go_enter Try.func125, Try.ntmps125
  go_wp2_with fail
  refine HC.out.mono ?_
  rintro e w' ⟨v, rfl, hv⟩
  go_wp2
  simp [bodyPost, results, Try.results125, hv]
theorem und_inner_panic {w : World} {b : Nat} {x : Value} (h1 : w.cell? ⟨b, 0, none⟩ = some x) {Q : World → Prop} {ch : List PanicEntry}
    (h : Calls Try.prog 126 #[x] w fun e w' => e = .panicked ch ∧ Q w') :
    Calls Try.prog 125 #[.pointer (some ⟨b, 0, none⟩)] w fun e w' => e = .panicked ch ∧ Q w' := by
  have HC := Lib.hid h
  clear h
  go_enter Try.func125, Try.ntmps125
  go_wp2_with fail
  refine HC.out.mono ?_
  rintro e w' ⟨rfl, hv⟩
  go_wp2
  simp [bodyPost, hv]
theorem enter_und (args : Array Value) (w : World) : (callFunc 125 args).run Try.prog w = .ok (.enter 125 args) w := by kernel_rfl
theorem box1 {w W : World} {x : Value} {s : TypeId} (hb : Below (w.heap.size + 1) (w.alloc (.cells #[x] s)) W) : W.cell? ⟨w.heap.size, 0, none⟩ = some x ∧ Below w.heap.size w W := by
  have b1 := (hb.block _ (by omega)).trans (alloc1 w (.cells #[x] s))
  exact ⟨by rw [cell_of_row _ _ _ _ _ _ b1]; rfl, ((Below.refl _ _).alloc (Nat.le_refl _) _).trans (hb.mono (by omega))⟩
/-- what Undeltas answers: the ints, or none and ErrCorrupt -/
def undAns (bs : List UInt8) : List Int × Int := if (numsOf bs).2 then ([], 8) else ((und (numsOf bs).1).1, 0)
set_option maxHeartbeats 800000 in
theorem Undeltas_any {w : World} {v : Value} {l : List UInt8} (h : Holds w v (u8s l)) (hl : l.length ≤ 300000) :
    Calls Try.prog 105 #[v] w fun e w' => ∃ r, e = .returned (.tuple #[r, .int .i64 (undAns l).2]) ∧ Hid (w'.ownsRow w.heap.size 3 1 r (undAns l).1.length (i64s (undAns l).1) ∧ Below w.heap.size w w') := by
  have hmf : ∀ (fn : Fn) (first cap : Array Value) (w : World), (Instr.makeFunc fn first cap).run Try.prog w = .ok (.func fn first cap) w := fun _ _ _ _ => rfl
  obtain ⟨a, c, hv, hc⟩ := h.form
  rw [u8s_len] at hv
  subst hv
  cases hb : (numsOf l).2 with
  | false =>
    have ha : undAns l = ((und (numsOf l).1).1, 0) := by unfold undAns; rw [hb]; rfl
    rw [ha]
    have HF : Hid (Calls Try.prog 124 #[.func (.func 125) #[] #[.pointer (some ⟨w.heap.size, 0, none⟩)]] (w.alloc (.cells #[.slice a l.length c] 68))
        fun e w' => ∃ r, e = .returned (.tuple #[r, .int .i64 0]) ∧ Hid (w'.ownsRow w.heap.size 3 1 r (und (numsOf l).1).1.length (i64s (und (numsOf l).1).1) ∧ Below w.heap.size w w')) := by
      refine Lib.hid ((faceI_ok (k := (und (numsOf l).1).1.length) (xs := i64s (und (numsOf l).1).1) enter_und fun W hW => ?_).mono ?_)
      · obtain ⟨h1, h4⟩ := box1 (by simpa using hW)
        refine und_inner_ok h1 ((readDeltas_any (h.below h4) hl).mono ?_)
        rintro e w' (⟨_, r, rfl, hr⟩ | ⟨hx, _⟩)
        · exact ⟨r, rfl, hr⟩
        · rw [hb] at hx; cases hx
      · rintro e w' ⟨r, rfl, hv⟩
        refine ⟨r, rfl, Lib.hid ⟨ownsRow_rebase hv.out.1 fun g hg => ?_, ?_⟩⟩
        · have := ownsRow_ge hv.out.1 g hg
          simp at this
          omega
        · exact (box1 (by simpa using hv.out.2)).2
    clear h ha hb
    go_enter Try.func105, Try.ntmps105
    go_wp2_with fail
    refine HF.out.mono ?_
    rintro e w' ⟨r, rfl, hv⟩
    go_wp2_with fail
    simp [bodyPost, results, Try.results105, go_sem]
    exact hv
  | true =>
    have ha : undAns l = ([], 8) := by unfold undAns; rw [hb]; rfl
    rw [ha]
    have HF : Hid (Calls Try.prog 124 #[.func (.func 125) #[] #[.pointer (some ⟨w.heap.size, 0, none⟩)]] (w.alloc (.cells #[.slice a l.length c] 68))
        fun e w' => e = .returned (.tuple #[.slice none 0 0, .int .i64 8]) ∧ Below w.heap.size w w') := by
      refine Lib.hid ((faceI_panic (n := 8) enter_und fun W hW => ?_).mono ?_)
      · obtain ⟨h1, h4⟩ := box1 (by simpa using hW)
        refine und_inner_panic h1 ((readDeltas_any (h.below h4) hl).mono ?_)
        rintro e w' (⟨hx, _⟩ | ⟨_, rfl, hr⟩)
        · rw [hb] at hx; cases hx
        · exact ⟨rfl, hr⟩
      · rintro e w' ⟨rfl, hv⟩
        exact ⟨rfl, (box1 (by simpa using hv)).2⟩
    clear h ha hb
    go_enter Try.func105, Try.ntmps105
    go_wp2_with fail
    refine HF.out.mono ?_
    rintro e w' ⟨rfl, hv⟩
    go_wp2_with fail
    have HV := Lib.hid hv
    clear hv
    simp [bodyPost, results, Try.results105, go_sem]
    exact Lib.hid ⟨World.ownsRow_nil _ _ _ _, HV.out⟩
end Go.Proofs.Ytcpfkinjglnabaa
