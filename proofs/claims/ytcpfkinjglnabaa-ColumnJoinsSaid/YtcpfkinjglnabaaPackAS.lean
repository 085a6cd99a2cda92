/- The texts Pairs, one behind the other; each one's own comment says what it holds. -/
import Derived.Test.YtcpfkinjglnabaaPackAR
import Derived.Test.YtcpfkinjglnabaaPackAJ
import Derived.Test.YtcpfkinjglnabaaPackAK
/- The pairs of numbers that bytes are made of, and the iterator that tells them: an iterator over an iterator. Conditions: fewer than 2^43 bytes. -/
set_option maxRecDepth 100000
namespace Go.Proofs.Ytcpfkinjglnabaa
open Go.RowKit Go.Maps Go.Sort
attribute [local go_sem] Oper.semAt_some

def pairsOf : List Nat → List (Nat × Nat)
  | a :: b :: r => (a, b) :: pairsOf r
  | _ => []
theorem pairs_len : ∀ l : List Nat, (pairsOf l).length = l.length / 2
  | [] => rfl
  | [_] => by simp [pairsOf]
  | _ :: _ :: r => by rw [pairsOf, List.length_cons, pairs_len r, List.length_cons, List.length_cons]; omega
theorem pairs_get : ∀ (l : List Nat) (k : Nat) (h : 2 * k + 1 < l.length), (pairsOf l)[k]? = some (l[2 * k], l[2 * k + 1])
  | a :: b :: r, 0, _ => rfl
  | a :: b :: r, k + 1, h => by
    rw [pairsOf, List.getElem?_cons_succ, pairs_get r k (by simp at h; omega)]
    rfl
def pairE (p : Nat × Nat) : Array Value := #[.int .u64 (p.1 : Int), .int .u64 (p.2 : Int)]
/-- do the bytes end in no pair? -/
def pairsBad (l : List UInt8) : Bool := (numsOf l).2 || decide ((numsOf l).1.length % 2 = 1)
/-- the box of the bytes, and the bytes -/
def pairR (bl : Nat) (bv : Value) (l : List UInt8) (W : World) : Prop := W.cell? ⟨bl, 0, none⟩ = some bv ∧ Holds W bv (u8s l)
theorem grown_setCell (W : World) (b : Nat) (v : Value) : W.grownBy (W.setCell ⟨b, 0, none⟩ v) (some b) :=
  ⟨rfl, rfl, rfl, by simp [World.setCell], fun k _ hk => Below.heap_setCell W ⟨b, 0, none⟩ v k (fun e => hk (by rw [e]))⟩
theorem leave_mark_ret {P : Program} {fn : Func} {tmps : Array Value} {R : Ending → World → Prop} {D : Nat} {v : Value} {W : World} (hres : ∀ w, (results fn tmps).run P w = .ok v w) (hD : W.heap[D]? = some (.deferred (some []))) (h : R (.returned v) (W.putObj D (.deferred none))) :
    LeavesInM Fence.wide 0 P fn tmps R [{ target := .collected D, args := #[] }] .returning W := ⟨by simp, .inl ⟨D, _, rfl, run_takeDeferred hD, v, hres _, h⟩⟩

theorem below3p (w : World) (A B C : Obj) : Below w.heap.size w (((w.alloc A).alloc B).alloc C) := (((Below.refl _ _).alloc (Nat.le_refl _) _).alloc (by simp) _).alloc (by simp; omega) _
theorem alloc4r (W : World) (A B C D : Obj) : ((((W.alloc A).alloc B).alloc C).alloc D).heap[W.heap.size]? = some A ∧ ((((W.alloc A).alloc B).alloc C).alloc D).heap[W.heap.size + 1]? = some B ∧ ((((W.alloc A).alloc B).alloc C).alloc D).heap[W.heap.size + 2]? = some C ∧ ((((W.alloc A).alloc B).alloc C).alloc D).heap[W.heap.size + 3]? = some D := by
  obtain ⟨a1, a2, a3⟩ := alloc3r W A B C
  refine ⟨(Below.heap_alloc _ _ _ (by simp; omega)).trans a1, (Below.heap_alloc _ _ _ (by simp)).trans a2, (Below.heap_alloc _ _ _ (by simp)).trans a3, ?_⟩
  have := alloc1 (((W.alloc A).alloc B).alloc C) D
  simpa using this
/-- where the iterator over pairs stands behind k numbers -/
structure PairJ (B q : Nat) (bv : Value) (ns : List Nat) (J : Nat → World → Prop) (k : Nat) (X : World) : Prop where
  outer : J (k / 2) X
  yield : X.heap[B]? = some (.cells #[.func (.yield q) #[] #[]] 208 (0, 0))
  first : X.heap[B + 1]? = some (.cells #[.int .u64 ((if k = 0 then 0 else ns.getD (k - 1) 0 : Nat) : Int)] 116 (0, 0))
  half : X.heap[B + 2]? = some (.cells #[.bool (decide (k % 2 = 1))] 4 (0, 0))
  box : X.heap[B + 3]? = some (.cells #[bv] 68 (0, 0))
theorem PairJ.ab {B q : Nat} {bv : Value} {ns : List Nat} {J : Nat → World → Prop} (hJ : Abides B 6 J) : Abides (B + 4) 2 (PairJ B q bv ns J) := by
  intro k X Y row h hg hr
  have keep : ∀ {b : Nat} {o : Obj}, b < B + 4 → X.heap[b]? = some o → Y.heap[b]? = some o := fun {b o} hb ho => (hg.block b (Array.getElem?_eq_some_iff.1 ho).1 (fun e => by have := (hr b e.symm).1; omega)).trans ho
  exact ⟨hJ.sub (B' := B + 4) (m' := 2) (by omega) (by omega) _ X Y row h.outer hg hr, keep (by omega) h.yield, keep (by omega) h.first, keep (by omega) h.half, keep (by omega) h.box⟩
/-- one number more -/
theorem PairJ.step {B q : Nat} {bv : Value} {ns : List Nat} {J : Nat → World → Prop} {k : Nat} {X : World} {u : Nat} (hJ : Abides B 6 J) (hu : ns[k]? = some u) (h : PairJ B q bv ns (fun _ _ => True) k X) (ho : J ((k + 1) / 2) X) :
    PairJ B q bv ns J (k + 1) ((X.setCell ⟨B + 1, 0, none⟩ (.int .u64 (u : Int))).setCell ⟨B + 2, 0, none⟩ (.bool (!decide (k % 2 = 1)))) ∧ Held (B + 4) 2 X ((X.setCell ⟨B + 1, 0, none⟩ (.int .u64 (u : Int))).setCell ⟨B + 2, 0, none⟩ (.bool (!decide (k % 2 = 1)))) := by
  have o1 : J ((k + 1) / 2) ((X.setCell ⟨B + 1, 0, none⟩ (.int .u64 (u : Int))).setCell ⟨B + 2, 0, none⟩ (.bool (!decide (k % 2 = 1)))) :=
    hJ _ _ _ _ (hJ _ _ _ _ ho (grown_setCell X (B + 1) _) (fun r e => by cases e; exact ⟨by omega, .inl (by omega)⟩)) (grown_setCell _ (B + 2) _) (fun r e => by cases e; exact ⟨by omega, .inl (by omega)⟩)
  have hb : (!decide (k % 2 = 1)) = decide ((k + 1) % 2 = 1) := by
    rw [Bool.eq_iff_iff]; simp; omega
  refine ⟨⟨o1, heap_other (heap_other h.yield (by omega)) (by omega), ?_, ?_, heap_other (heap_other h.box (by omega)) (by omega)⟩, by simp [World.setCell], fun b h1 h2 => ?_⟩
  · rw [if_neg (by omega), Nat.add_sub_cancel]
    have e : ns.getD k 0 = u := by rw [List.getD_eq_getElem?_getD, hu]; rfl
    rw [e]
    exact heap_other (heap_set (j := 0) h.first _) (by omega)
  · rw [← hb]
    exact heap_set (j := 0) (heap_other h.half (by omega)) _
  · exact (Below.heap_setCell _ ⟨B + 2, 0, none⟩ _ b (by show b ≠ B + 2; omega)).trans (Below.heap_setCell X ⟨B + 1, 0, none⟩ _ b (by show b ≠ B + 1; omega))

theorem flip_done {B : Nat} {W4 X Y Z : World} {J : Nat → World → Prop} (Jp : List PanicEntry → World → Prop) {k : Nat} (hJ : Abides (B + 4) 2 J) (hB : W4.heap.size = B + 4) (h1 : Held (B + 4) 2 X Y) (h2 : J k Z ∧ Held (B + 4) 2 Y Z) :
    ∀ a, Exit.inBlock 1 (goesP W4.heap.size (0 + 2) (J k) Jp X) .normal a Z.drew := by
  intro a
  show Held _ _ _ _ ∧ _
  rw [hB]
  exact ⟨(h1.trans h2.2).trans (Held.drew _ _ _), hJ.drew h2.1⟩

set_option maxHeartbeats 1600000 in
theorem pairs_seq (bl : Nat) (sa : Option Addr) (sn sc : Nat) (l : List UInt8) (hl : l.length ≤ 17592186044000) : SeqP Try.prog 140 #[.pointer (some ⟨bl, 0, none⟩)] 6 ((pairsOf (numsOf l).1).map pairE) (pairsBad l) corrupt (pairR bl (.slice sa sn sc) l) := by
  have hmix : Try.prog.follows .mixedOrders = true := by kernel_rfl
  intro q J Jp W hR hAb hAp hY hF h0
  have HR := Lib.hid hR
  have HY := Lib.hid hY
  have HD := Lib.hid hAb
  have HDp := Lib.hid hAp
  have H0 := Lib.hid h0
  have HF := Lib.hid hF
  obtain ⟨hc0, hh0⟩ := hR 0 W h0
  have HH0 := Lib.hid hh0
  have HL := Lib.hid hl
  have hlt := World.block_lt_of_cell? W _ hc0
  have hcA : (((W.alloc (Obj.cells #[Value.func (.yield q) #[] #[]] 208)).alloc (Obj.cells #[Value.int .u64 0] 116)).alloc (Obj.cells #[Value.bool false] 4)).cell? ⟨bl, 0, none⟩ = some (.slice sa sn sc) := by
    rw [(below3p W _ _ _).cell (p := ⟨bl, 0, none⟩) hlt]; exact hc0
  clear hR hY h0 hAb hAp hF hh0 hl
  refine calls_of_wpFor Try.func140 rfl ?_
  simp only [Try.ntmps140, List.size_toArray, List.length_cons, List.length_nil, Nat.reduceAdd, Nat.reduceSub, Array.replicate_succ, Array.replicate_zero, List.push_toArray, List.append_toArray, List.nil_append, List.cons_append]
  refine wpFor_then ?_
  gi_wp2_with fail
  refine wpFor_then ?_
  gi_wp2_with fail
  refine wpFor_then ?_
  gi_wp2_with fail
  refine wpFor_seq (wpFor_then ?_)
  gi_wp2_with fail
  refine ⟨trivial, rfl, (callsIn_wide.2 (numbers_any _ _ _ _)).mono ?_⟩
  rintro e w' ⟨rfl, rfl⟩
  gi_wp2_with fail
  refine wpFor_block ?_
  have hns : numsE l = (numsOf l).1.map numE := rfl
  obtain ⟨ns, hnn⟩ : ∃ ns, (numsOf l).1 = ns := ⟨_, rfl⟩
  have hbd := nums_bd l
  have hseq := numbers_seq (W.heap.size + 1 + 1 + 1) l HL.out
  rw [hns] at hseq
  rw [hnn] at hseq hbd
  have hJ0 : PairJ W.heap.size q (.slice sa sn sc) ns J 0 ((((W.alloc (Obj.cells #[Value.func (.yield q) #[] #[]] 208)).alloc (Obj.cells #[Value.int .u64 0] 116)).alloc (Obj.cells #[Value.bool false] 4)).alloc (Obj.cells #[Value.slice sa sn sc] 68)) := by
    obtain ⟨a1, a2, a3, a4⟩ := alloc4r W (Obj.cells #[Value.func (.yield q) #[] #[]] 208) (Obj.cells #[Value.int .u64 0] 116) (Obj.cells #[Value.bool false] 4) (Obj.cells #[Value.slice sa sn sc] 68)
    exact ⟨HD.out.alloc (HD.out.alloc (HD.out.alloc (HD.out.alloc H0.out _) _) _) _, a1, a2, a3, a4⟩
  have hps : ((((W.alloc (Obj.cells #[Value.func (.yield q) #[] #[]] 208)).alloc (Obj.cells #[Value.int .u64 0] 116)).alloc (Obj.cells #[Value.bool false] 4)).alloc (Obj.cells #[Value.slice sa sn sc] 68)).heap.size = W.heap.size + 4 := by simp
  generalize (((W.alloc (Obj.cells #[Value.func (.yield q) #[] #[]] 208)).alloc (Obj.cells #[Value.int .u64 0] 116)).alloc (Obj.cells #[Value.bool false] 4)).alloc (Obj.cells #[Value.slice sa sn sc] 68) = W4 at *
  have HP := Lib.hid hps
  have HU := Lib.hid hbd.2
  have HPB : Hid (pairsBad l = ((numsOf l).2 || decide (ns.length % 2 = 1))) := Lib.hid (by unfold pairsBad; rw [hnn])
  have HNN := Lib.hid hnn
  have HPL : Hid (((pairsOf ns).map pairE).length = ns.length / 2) := Lib.hid (by rw [List.length_map, pairs_len])
  have HYN : Hid (∀ k (hk : k < ((pairsOf ns).map pairE).length) X, J k X → W.heap.size + 6 ≤ X.heap.size → YieldAt Fence.wide 0 Try.prog q ((pairsOf ns).map pairE)[k] X fun e X' => Held W.heap.size 6 X X' ∧ ((e = .returned (.bool true) ∧ J (k + 1) X') ∨ ∃ ch, e = .panicked ch ∧ Jp ch X')) := Lib.hid (by
    subst hnn; exact HY.out)
  have HFN : Hid (pairsBad l = true → ∀ X, J (ns.length / 2) X → Jp corrupt X) := Lib.hid (by
    have := HF.out
    rw [hnn, HPL.out] at this
    exact this)
  clear hnn hns hbd hcA hc0 hlt
  refine rangeP_law Try.func140 (gf := 142) (lb := #[Value.pointer (some { block := W.heap.size + 1 + 1 + 1, off := 0 })]) rfl (enters_of Try.func142 (by kernel_rfl) rfl)
    (m := 0) (encs := ns.map numE) (fun x hx => by obtain ⟨p, _, rfl⟩ := List.mem_map.1 hx; rfl) hseq
    (PairJ W.heap.size q (.slice sa sn sc) ns J) Jp (by rw [hps]; exact PairJ.ab HD.out) (by rw [hps]; exact HDp.out.sub (by omega) (by omega)) (fun k X h => ⟨_, by rw [cell_of_row _ _ _ _ _ _ h.box]; rfl, (HR.out _ X h.outer).2⟩) hJ0
    (fun s X => PairJ W.heap.size q (.slice sa sn sc) ns J s.1 X ∧ ∃ u, ns[s.1]? = some u ∧
      s.2 = { tmps := #[Value.func (.yield q) #[] #[], Value.pointer (some { block := bl, off := 0 }), Value.pointer (some { block := W.heap.size, off := 0 }), Value.pointer (some { block := W.heap.size + 1, off := 0 }), Value.pointer (some { block := W.heap.size + 1 + 1, off := 0 }), Value.int .u64 (u : Int), Value.slice sa sn sc,
          Value.func (Fn.func 142) #[] #[Value.pointer (some { block := W.heap.size + 1 + 1 + 1, off := 0 })], Value.int .u64 (u : Int),
          undef, undef, undef, undef, undef, undef, undef, undef, undef, undef, undef, undef, undef], defers := [] }) ?hM ?assign ?body ?fin ?done ?pan
  case hM =>
    rw [hps]
    intro s X Y row h hg hr
    exact ⟨PairJ.ab HD.out s.1 X Y row h.1 hg hr, h.2⟩
  case assign =>
    intro l' k hk X K h hK
    have hk2 : k < ns.length := by simpa using hk
    have e : (ns.map numE)[k] = #[Value.int .u64 (ns[k] : Int)] := by rw [List.getElem_map]; rfl
    have hget : ns[k]? = some ns[k] := List.getElem?_eq_getElem hk2
    rw [e]
    generalize ns[k] = u at hget ⊢
    have HK := Lib.hid hK
    have HG := Lib.hid hget
    have HP2 := Lib.hid h
    clear hK e hget h
    simp only [List.zip_toArray, List.zip_cons_cons, List.zip_nil_right, List.foldl_toArray, List.foldl_cons, List.foldl_nil, List.setIfInBounds_toArray, List.set_cons_succ, List.set_cons_zero]
    gi_wp2
    exact HK.out _ _ (Held.refl _ _ _) ⟨HP2.out, u, HG.out, rfl⟩
  case body =>
    rintro l' k hk a₁ X ⟨h, u, hget, rfl⟩ hsz
    have hk2 : k < ns.length := by simpa using hk
    have hS := HP.out
    rw [hps] at hsz
    have hc0 : X.cell? ⟨W.heap.size, 0, none⟩ = some (.func (.yield q) #[] #[]) := by rw [cell_of_row _ _ _ _ _ _ h.yield]; rfl
    have hc1 : X.cell? ⟨W.heap.size + 1, 0, none⟩ = some (.int .u64 ((if k = 0 then 0 else ns.getD (k - 1) 0 : Nat) : Int)) := by rw [cell_of_row _ _ _ _ _ _ h.first]; rfl
    have hc2 : X.cell? ⟨W.heap.size + 1 + 1, 0, none⟩ = some (.bool (decide (k % 2 = 1))) := by rw [cell_of_row _ _ _ _ _ _ h.half]; rfl
    have hJA := PairJ.ab (bv := .slice sa sn sc) (q := q) (ns := ns) HD.out
    by_cases hodd : k % 2 = 1
    · obtain ⟨j, hj⟩ : ∃ j, k = 2 * j + 1 := ⟨k / 2, by omega⟩
      have hpg := pairs_get ns j (by omega)
      have hjl : j < ((pairsOf ns).map pairE).length := by rw [HPL.out]; omega
      have hYj := HYN.out j hjl X (by have := h.outer; rwa [show k / 2 = j by omega] at this) (by omega)
      have he : ((pairsOf ns).map pairE)[j] = #[.int .u64 ((ns.getD (k - 1) 0 : Nat) : Int), .int .u64 (u : Int)] := by
        rw [List.getElem_map, (List.getElem?_eq_some_iff.1 hpg).2, pairE]
        have e1 : ns.getD (k - 1) 0 = ns[2 * j] := by rw [show k - 1 = 2 * j by omega, List.getD_eq_getElem?_getD, List.getElem?_eq_getElem (by omega)]; rfl
        have e2 : ns[2 * j + 1] = u := by have := hget; subst hj; rw [List.getElem?_eq_getElem hk2] at this; exact Option.some.inj this
        rw [e1, e2]
      rw [he] at hYj
      rw [if_neg (by omega)] at hc1
      rw [decide_eq_true hodd] at hc2
      generalize ns.getD (k - 1) 0 = a at hc1 hYj
      obtain ⟨fn, tmps, assign, body, hy, hRd⟩ := hYj
      have hRd2 : RoundIn (Fence.wide.inRound l') 0 Try.prog q fn tmps assign body X _ := hRd
      gi_wp2_with fail
      refine ⟨rfl, hRd2.mono ?_⟩
      rintro e W3 ⟨hh, ⟨rfl, hJ⟩ | ⟨ch, rfl, hJ⟩⟩
      · have hB3 : PairJ W.heap.size q (.slice sa sn sc) ns (fun _ _ => True) k W3 := ⟨trivial, (hh.2 _ (by omega) (by omega)).trans h.yield, (hh.2 _ (by omega) (by omega)).trans h.first, (hh.2 _ (by omega) (by omega)).trans h.half, (hh.2 _ (by omega) (by omega)).trans h.box⟩
        have hJ3 : J ((k + 1) / 2) W3 := by rw [show (k + 1) / 2 = j + 1 by omega]; exact hJ
        have hf1 := free_of_row hB3.first 0
        have hf2 := free_of_row hB3.half 0
        have hc3 : W3.cell? ⟨W.heap.size + 1, 0, none⟩ = some (.int .u64 ((if k = 0 then 0 else ns.getD (k - 1) 0 : Nat) : Int)) := by rw [cell_of_row _ _ _ _ _ _ hB3.first]; rfl
        have hc4 : W3.cell? ⟨W.heap.size + 1 + 1, 0, none⟩ = some (.bool (decide (k % 2 = 1))) := by rw [cell_of_row _ _ _ _ _ _ hB3.half]; rfl
        have hc5 : (W3.drew.setCell ⟨W.heap.size + 1, 0, none⟩ (.int .u64 (u : Int))).cell? ⟨W.heap.size + 1 + 1, 0, none⟩ = some (.bool true) := by
          rw [cell_of_row _ _ _ _ _ _ (heap_other (X := W3.drew) (v := .int .u64 (u : Int)) (j := 0) (g := W.heap.size + 1) hB3.half (by omega)), decide_eq_true hodd]; rfl
        have HST := Lib.hid (flip_done Jp hJA hps (hh.sub (by omega) (by omega)) (hB3.step HD.out hget hJ3))
        rw [decide_eq_true hodd] at hc4 HST
        clear hB3 hJ3 h hc0 hc1 hc2 hRd hRd2 hy hJ
        gi_wp2_with fail
        refine round_region_any hmix (by decide +kernel) (fun ⟨_, _, h⟩ => h) ?_
        change wpAny _ _ _ _ _ _ _ (World.drew _)
        refine wpAny_take (i := 0) (v := .int .u64 (u : Int)) rfl (by kernel_rfl) (by kernel_rfl) (by kernel_rfl) (fun _ _ _ h => h) (Or.inl ⟨by rfl, fun w => by go_simp⟩) ?_
        refine wpAny_ready (rs := [1, 3]) (by kernel_rfl) (by simp) ?_
        refine AllReady.cons rfl (fun K hK => ?_) (AllReady.cons rfl (fun K hK => ?_) AllReady.nil)
        · go_simp
          refine hK _ _ ?_
          clear hK K
          refine wpAny_take (i := 2) (v := .bool false) rfl (by kernel_rfl) (by kernel_rfl) (by kernel_rfl) (fun _ _ _ h => h) (Or.inl ⟨by rfl, fun w => by go_simp⟩) ?_
          refine wpAny_ready (rs := [3]) (by kernel_rfl) (by simp) ?_
          refine AllReady.cons rfl (fun K hK => ?_) AllReady.nil
          go_simp
          refine hK _ _ ?_
          clear hK K
          refine wpAny_ready (rs := [4]) (by kernel_rfl) (by simp) ?_
          refine AllReady.cons rfl (fun K hK => ?_) AllReady.nil
          go_simp
          refine hK _ _ ?_
          clear hK K
          exact wpAny_done (by kernel_rfl) (HST.out _) _
        · go_simp
          refine hK _ _ ?_
          clear hK K
          refine wpAny_ready (rs := [1]) (by kernel_rfl) (by simp) ?_
          refine AllReady.cons rfl (fun K hK => ?_) AllReady.nil
          go_simp
          refine hK _ _ ?_
          clear hK K
          refine wpAny_take (i := 2) (v := .bool false) rfl (by kernel_rfl) (by kernel_rfl) (by kernel_rfl) (fun _ _ _ h => h) (Or.inl ⟨by rfl, fun w => by go_simp⟩) ?_
          refine wpAny_ready (rs := [4]) (by kernel_rfl) (by simp) ?_
          refine AllReady.cons rfl (fun K hK => ?_) AllReady.nil
          go_simp
          refine hK _ _ ?_
          clear hK K
          exact wpAny_done (by kernel_rfl) (HST.out _) _
      · have HJ3 := Lib.hid hJ
        have HH3 := Lib.hid hh
        gi_wp2_with fail
        exact ⟨rfl, HH3.out.sub (by omega) (by omega), HJ3.out⟩
    · rw [decide_eq_false hodd] at hc2
      have hB3 : PairJ W.heap.size q (.slice sa sn sc) ns (fun _ _ => True) k X := ⟨trivial, h.yield, h.first, h.half, h.box⟩
      have hJ3 : J ((k + 1) / 2) X := by rw [show (k + 1) / 2 = k / 2 by omega]; exact h.outer
      have hf1 := free_of_row hB3.first 0
      have hf2 := free_of_row hB3.half 0
      have hc5 : (X.drew.setCell ⟨W.heap.size + 1, 0, none⟩ (.int .u64 (u : Int))).cell? ⟨W.heap.size + 1 + 1, 0, none⟩ = some (.bool false) := by
        rw [cell_of_row _ _ _ _ _ _ (heap_other (X := X.drew) (v := .int .u64 (u : Int)) (j := 0) (g := W.heap.size + 1) hB3.half (by omega)), decide_eq_false hodd]; rfl
      have HST := Lib.hid (flip_done Jp hJA hps (Held.refl _ _ _) (hB3.step HD.out hget hJ3))
      rw [decide_eq_false hodd] at HST
      clear hB3 hJ3 h
      gi_wp2_with fail
      all_goals (refine ⟨(fun _ h => nomatch h), ?_⟩)
      all_goals gi_wp2_with fail
      refine round_region_any hmix (by decide +kernel) (fun ⟨_, _, h⟩ => h) ?_
      change wpAny _ _ _ _ _ _ _ (World.drew _)
      refine wpAny_take (i := 0) (v := .int .u64 (u : Int)) rfl (by kernel_rfl) (by kernel_rfl) (by kernel_rfl) (fun _ _ _ h => h) (Or.inl ⟨by rfl, fun w => by go_simp⟩) ?_
      refine wpAny_ready (rs := [1, 3]) (by kernel_rfl) (by simp) ?_
      refine AllReady.cons rfl (fun K hK => ?_) (AllReady.cons rfl (fun K hK => ?_) AllReady.nil)
      · go_simp
        refine hK _ _ ?_
        clear hK K
        refine wpAny_take (i := 2) (v := .bool true) rfl (by kernel_rfl) (by kernel_rfl) (by kernel_rfl) (fun _ _ _ h => h) (Or.inl ⟨by rfl, fun w => by go_simp⟩) ?_
        refine wpAny_ready (rs := [3]) (by kernel_rfl) (by simp) ?_
        refine AllReady.cons rfl (fun K hK => ?_) AllReady.nil
        go_simp
        refine hK _ _ ?_
        clear hK K
        refine wpAny_ready (rs := [4]) (by kernel_rfl) (by simp) ?_
        refine AllReady.cons rfl (fun K hK => ?_) AllReady.nil
        go_simp
        refine hK _ _ ?_
        clear hK K
        exact wpAny_done (by kernel_rfl) (HST.out _) _
      · go_simp
        refine hK _ _ ?_
        clear hK K
        refine wpAny_ready (rs := [1]) (by kernel_rfl) (by simp) ?_
        refine AllReady.cons rfl (fun K hK => ?_) AllReady.nil
        go_simp
        refine hK _ _ ?_
        clear hK K
        refine wpAny_take (i := 2) (v := .bool true) rfl (by kernel_rfl) (by kernel_rfl) (by kernel_rfl) (fun _ _ _ h => h) (Or.inl ⟨by rfl, fun w => by go_simp⟩) ?_
        refine wpAny_ready (rs := [4]) (by kernel_rfl) (by simp) ?_
        refine AllReady.cons rfl (fun K hK => ?_) AllReady.nil
        go_simp
        refine hK _ _ ?_
        clear hK K
        exact wpAny_done (by kernel_rfl) (HST.out _) _
  case fin =>
    intro hf X h
    rw [List.length_map] at h
    exact HFN.out (by rw [HPB.out, hf]; rfl) X h.outer
  case done =>
    intro hfin X h hX hD
    rw [List.length_map] at h
    rw [hps] at hX hD
    have hc2 : X.cell? ⟨W.heap.size + 1 + 1, 0, none⟩ = some (.bool (decide (ns.length % 2 = 1))) := by rw [cell_of_row _ _ _ _ _ _ h.half]; rfl
    have HX := Lib.hid (And.intro h (And.intro hX hD))
    have HB : Hid (pairsBad l = decide (ns.length % 2 = 1)) := Lib.hid (by rw [HPB.out, hfin, Bool.false_or])
    show WpFor _ _ _ _ _ _
    refine .of_wpIn ?_
    clear h hX hD hfin
    by_cases hodd : ns.length % 2 = 1
    · rw [decide_eq_true hodd] at hc2 HB
      gi_wp2_with fail
      exact leave_mark_panic HX.out.2.2 (.inr ⟨corrupt, rfl, HDp.out.putObj (HFN.out HB.out X HX.out.1.outer) (by omega) HX.out.2.2 rfl _⟩)
    · rw [decide_eq_false hodd] at hc2 HB
      gi_wp2_with fail
      refine leave_mark_ret (v := .tuple #[]) (fun w => by simp [results, Try.results140, go_sem]) HX.out.2.2 (.inl ⟨HB.out, ⟨_, rfl⟩, ?_, by have := HX.out.2.1; simp; omega⟩)
      rw [HNN.out, pairs_len]
      exact HD.out.putObj HX.out.1.outer (by omega) HX.out.2.2 rfl _
  case pan =>
    rintro ch X hp hD
    exact leave_mark_panic hD (.inr ⟨ch, rfl, HDp.out.putObj hp (by omega) hD rfl _⟩)
/-- pairs: a box, and the iterator over it -/
theorem pairs_any (sa : Option Addr) (n c : Nat) (W : World) : Calls Try.prog 135 #[.slice sa n c] W fun e W' =>
    e = .returned (.func (.func 140) #[] #[.pointer (some ⟨W.heap.size, 0, none⟩)]) ∧ W' = W.alloc (.cells #[.slice sa n c] 68) := by
  go_enter Try.func135, Try.ntmps135
  go_wp2
  go_ret
  exact ⟨rfl, rfl⟩
end Go.Proofs.Ytcpfkinjglnabaa
