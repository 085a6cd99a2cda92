/- The texts CodecUnruns, one behind the other; each one's own comment says what it holds. -/
import Derived.Test.YtcpfkinjglnabaaPackAS
import Derived.Test.YtcpfkinjglnabaaPackAT
import Derived.Test.YtcpfkinjglnabaaPackAU
import Derived.Test.YtcpfkinjglnabaaPackAL
/- Contracts of codec.readRuns and codec.Unruns: the numbers whose runs bytes are, or ErrCorrupt. Conditions: at most 300000 bytes. -/
set_option maxRecDepth 100000
namespace Go.Proofs.Ytcpfkinjglnabaa
open Go.RowKit Go.Maps Go.Sort
attribute [local go_sem] Oper.semAt_some

/-- one run more -/
def unrStep (s : Option (List UInt64)) (p : Nat × Nat) : Option (List UInt64) :=
  match s with
  | none => none
  | some a => if a.getLast? = some (UInt64.ofNat p.1) ∨ p.2 = 0 ∨ 100000 - a.length < p.2 then none else some (a ++ List.replicate p.2 (UInt64.ofNat p.1))
def unr (ps : List (Nat × Nat)) : Option (List UInt64) := ps.foldl unrStep (some [])
theorem unr_snoc (ps : List (Nat × Nat)) (p : Nat × Nat) : unr (ps ++ [p]) = unrStep (unr ps) p := by simp [unr, List.foldl_append]
theorem unr_none : ∀ (ps : List (Nat × Nat)), ps.foldl unrStep none = none
  | [] => rfl
  | p :: r => by rw [List.foldl_cons]; exact unr_none r
theorem unr_take {ps : List (Nat × Nat)} {k : Nat} (h : unr (ps.take k) = none) : unr ps = none := by
  have e : ps = ps.take k ++ ps.drop k := (List.take_append_drop k ps).symm
  rw [e, unr, List.foldl_append]
  have : (ps.take k).foldl unrStep (some []) = none := h
  rw [this]
  exact unr_none _
theorem unrStep_len {s : Option (List UInt64)} {p : Nat × Nat} {a : List UInt64} (hs : ∀ b, s = some b → b.length ≤ 100000) (h : unrStep s p = some a) : a.length ≤ 100000 := by
  cases s with
  | none => cases h
  | some b =>
    rw [unrStep] at h
    split at h
    · cases h
    · rename_i hc
      have hb := hs b rfl
      cases h
      rw [List.length_append, List.length_replicate]
      omega
theorem unr_len0 : ∀ (ps : List (Nat × Nat)) (s : Option (List UInt64)) (a : List UInt64), (∀ b, s = some b → b.length ≤ 100000) → ps.foldl unrStep s = some a → a.length ≤ 100000
  | [], _, a, hs, h => hs a h
  | _ :: r, _, a, hs, h => unr_len0 r _ a (fun _ hb => unrStep_len hs hb) h
theorem unr_len {ps : List (Nat × Nat)} {a : List UInt64} (h : unr ps = some a) : a.length ≤ 100000 := unr_len0 ps _ a (fun b hb => by cases hb; exact Nat.zero_le _) h

theorem appU {w : World} {B : Nat} {v : Value} {xs : List UInt64} (hown : w.ownsRow B 116 1 v xs.length (u64s xs)) (hB : B ≤ w.heap.size) {sv : Value} {l : List UInt64} (hs : Holds w sv (u64s l)) (hlen : xs.length + l.length ≤ 17592186044416) :
    ∃ v' w', (∀ ty, (Builtin.append_ #[118, 118] ty #[v, sv]).run Try.prog w = .ok v' w') ∧ w'.ownsRow B 116 1 v' (xs ++ l).length (u64s (xs ++ l)) ∧ w.grownBy w' v.ownBlock ∧ (v'.ownBlock = v.ownBlock ∨ v'.ownBlock = some w.heap.size) := by
  have := app_any (P := Try.prog) Try.underlying118 infoU (by omega) rfl (by rw [u64s_len]; exact hown) hB hs (u64s_one l) (by rw [u64s_len, u64s_len]; exact hlen)
  rw [← u64s_append, u64s_len] at this
  exact this

/-- where readRuns stands behind k pairs: the box of its list at w.heap.size, that of the bytes behind it -/
structure RunJ (w : World) (ps : List (Nat × Nat)) (bv : Value) (k : Nat) (X : World) : Prop where
  row : ∃ v acc, unr (ps.take k) = some acc ∧ X.heap[w.heap.size]? = some (.cells #[v] 118 (0, 0)) ∧ X.ownsRow (w.heap.size + 10) 116 1 v acc.length (u64s acc)
  box : X.heap[w.heap.size + 1]? = some (.cells #[bv] 68 (0, 0))
  below : Below w.heap.size w X
theorem RunJ.ab {w : World} {ps : List (Nat × Nat)} {bv : Value} : Abides (w.heap.size + 2) 8 (RunJ w ps bv) := by
  intro k X Y row h hg hr
  have keep : ∀ {b : Nat} {o : Obj}, b < w.heap.size + 2 → X.heap[b]? = some o → Y.heap[b]? = some o := fun {b o} hb ho => (hg.block b (Array.getElem?_eq_some_iff.1 ho).1 (fun e => by have := (hr b e.symm).1; omega)).trans ho
  obtain ⟨v, acc, h0, h1, h2⟩ := h.row
  refine ⟨⟨v, acc, h0, keep (by omega) h1, ownsRow_of_block h2 (fun g hgv => hg.block g (h2.lt g hgv).2 (fun e => ?_))⟩, keep (by omega) h.box, ?_⟩
  · obtain ⟨h3, h4 | ⟨o, ho, hc⟩⟩ := hr g e.symm
    · have := (h2.lt g hgv).1; omega
    · have := own_cells h2 g o hgv ho
      rw [hc] at this; cases this
  · exact h.below.trans ⟨hg.os, hg.tape, hg.output, hg.size, fun b hb => hg.block b (by have := h.below.size; omega) (fun e => by have := (hr b e.symm).1; omega)⟩
/-- one run more is written -/
theorem RunJ.step {w : World} {ps : List (Nat × Nat)} {bv : Value} {k : Nat} {X : World} {v : Value} {u t : Nat} {acc : List UInt64} (h : RunJ w ps bv k X) (hu : ps[k]? = some (u, t)) (hacc : unr (ps.take k) = some acc)
    (hn : ¬ (acc.getLast? = some (UInt64.ofNat u) ∨ t = 0 ∨ 100000 - acc.length < t))
    (hb : X.heap[w.heap.size]? = some (.cells #[v] 118 (0, 0))) (hrow : X.ownsRow (w.heap.size + 10) 116 1 v acc.length (u64s acc)) (hsz : w.heap.size + 10 ≤ X.heap.size)
    {w2 : World} {sv : Value} (hw2 : Below (X.heap.size + 1) (X.drew.alloc (.cells #[.int .u64 ((UInt64.ofNat u).toNat : Int)] 116)) w2) (hs : Holds w2 sv (u64s (List.replicate t (UInt64.ofNat u)))) :
    ∃ v2 w3, (∃ ba bn bc, v2 = .slice ba bn bc) ∧ Hid (∀ ty, (Builtin.append_ #[118, 118] ty #[v, sv]).run Try.prog w2 = .ok v2 w3) ∧ w2.cell? ⟨w.heap.size, 0, none⟩ = some v ∧
      w3.cell? ⟨w.heap.size, 0, none⟩ = some v ∧ w3.frozen? ⟨w.heap.size, 0, none⟩ = false ∧ Hid (Held (w.heap.size + 2) 8 X (w3.setCell ⟨w.heap.size, 0, none⟩ v2) ∧ RunJ w ps bv (k + 1) (w3.setCell ⟨w.heap.size, 0, none⟩ v2)) := by
  obtain ⟨hlt, hget⟩ := List.getElem?_eq_some_iff.1 hu
  have hsn : unr (ps.take (k + 1)) = some (acc ++ List.replicate t (UInt64.ofNat u)) := by
    rw [List.take_succ_eq_append_getElem hlt, hget, unr_snoc, hacc, unrStep, if_neg hn]
  have hl := unr_len hsn
  rw [List.length_append, List.length_replicate] at hl
  have hXs : (X.drew.alloc (.cells #[.int .u64 ((UInt64.ofNat u).toNat : Int)] 116)).heap.size = X.heap.size + 1 := World.size_alloc X.drew _
  have old : ∀ b, b < X.heap.size → w2.heap[b]? = X.heap[b]? := fun b h2 => (hw2.block b (by omega)).trans (Below.heap_alloc X.drew _ _ h2)
  have hs2 := hw2.size
  rw [hXs] at hs2
  have hrow2 : w2.ownsRow (w.heap.size + 10) 116 1 v acc.length (u64s acc) := ownsRow_of_block hrow (fun g hg => old g (hrow.lt g hg).2)
  obtain ⟨v2, w3, r, o, g, _⟩ := appU hrow2 (by omega) hs (by rw [List.length_replicate]; omega)
  have kept : ∀ b, b < w.heap.size + 10 → w3.heap[b]? = X.heap[b]? := fun b h1 =>
    (g.block b (by omega) (fun e => by have := (hrow2.lt b e.symm).1; omega)).trans (old b (by omega))
  have hb2 := (kept w.heap.size (by omega)).trans hb
  have hX2b : Below w.heap.size X w2 := (((Below.refl _ _).drew).alloc (show w.heap.size ≤ X.drew.heap.size by show _ ≤ X.heap.size; omega) _).trans (hw2.mono (by omega))
  have hbel : Below w.heap.size w w3 := (h.below.trans hX2b).trans ⟨g.os, g.tape, g.output, g.size, fun b hb => g.block b (by omega) (fun e => by have := (hrow2.lt b e.symm).1; omega)⟩
  have hs3 : (w3.setCell ⟨w.heap.size, 0, none⟩ v2).heap.size = w3.heap.size := by simp [World.setCell]
  obtain ⟨ba, bc, hvf, _⟩ := ownsRow_form o
  refine ⟨v2, w3, ⟨_, _, _, hvf⟩, Lib.hid r, by rw [cell_of_row _ _ _ _ _ _ ((old w.heap.size (by omega)).trans hb)]; rfl, by rw [cell_of_row _ _ _ _ _ _ hb2]; rfl, free_of_row hb2 0, Lib.hid ⟨⟨by rw [hs3]; have := g.size; omega, fun b h1 h2 => ?_⟩, ⟨⟨v2, _, hsn, heap_set (j := 0) hb2 v2, ?_⟩, ?_, hbel.setCell (p := ⟨w.heap.size, 0, none⟩) (Nat.le_refl _) _⟩⟩⟩
  · exact (Below.heap_setCell w3 ⟨w.heap.size, 0, none⟩ v2 b (by show b ≠ w.heap.size; omega)).trans (kept b (by omega))
  · exact ownsRow_of_block o (fun g2 hg2 => Below.heap_setCell w3 ⟨w.heap.size, 0, none⟩ v2 g2 (by have := (o.lt g2 hg2).1; show g2 ≠ w.heap.size; omega))
  · exact heap_other ((kept _ (by omega)).trans h.box) (by omega)
theorem pairs_mem : ∀ (l : List Nat) (p : Nat × Nat), p ∈ pairsOf l → p.1 ∈ l ∧ p.2 ∈ l
  | a :: b :: r, p, h => by
    rw [pairsOf] at h
    rcases List.mem_cons.1 h with rfl | h
    · exact ⟨List.mem_cons_self, List.mem_cons_of_mem _ List.mem_cons_self⟩
    · have := pairs_mem r p h
      exact ⟨List.mem_cons_of_mem _ (List.mem_cons_of_mem _ this.1), List.mem_cons_of_mem _ (List.mem_cons_of_mem _ this.2)⟩

set_option maxHeartbeats 1600000 in
theorem readRuns_any {w : World} {bv : Value} {l : List UInt8} (h : Holds w bv (u8s l)) (hl : l.length ≤ 300000) :
    Calls Try.prog 123 #[bv] w fun e w' => (∃ acc, pairsBad l = false ∧ unr (pairsOf (numsOf l).1) = some acc ∧ ∃ v, e = .returned v ∧ Hid (w'.ownsRow w.heap.size 116 1 v acc.length (u64s acc) ∧ Below w.heap.size w w')) ∨ ((pairsBad l = true ∨ unr (pairsOf (numsOf l).1) = none) ∧ e = .panicked corrupt ∧ Below w.heap.size w w') := by
  have hmix : Try.prog.follows .mixedOrders = true := by kernel_rfl
  have H := Lib.hid h
  obtain ⟨a, c, hv, hc⟩ := h.form
  rw [u8s_len] at hv
  subst hv
  clear h hc
  refine calls_of_wpFor Try.func123 rfl ?_
  simp only [Try.ntmps123, List.size_toArray, List.length_cons, List.length_nil, Nat.reduceAdd, Nat.reduceSub, Array.replicate_succ, Array.replicate_zero, List.push_toArray, List.append_toArray, List.nil_append, List.cons_append]
  refine wpFor_then ?_
  gi_wp2_with fail
  refine wpFor_then ?_
  gi_wp2_with fail
  refine wpFor_seq (wpFor_then ?_)
  gi_wp2_with fail
  refine ⟨trivial, rfl, (callsIn_wide.2 (pairs_any _ _ _ _)).mono ?_⟩
  rintro e w' ⟨rfl, rfl⟩
  gi_wp2_with fail
  refine wpFor_block ?_
  have hJ0 : RunJ w (pairsOf (numsOf l).1) (.slice a l.length c) 0 ((w.alloc (Obj.cells #[Value.slice none 0 0] 118)).alloc (Obj.cells #[Value.slice a l.length c] 68)) := by
    have a1 : ((w.alloc (Obj.cells #[Value.slice none 0 0] 118)).alloc (Obj.cells #[Value.slice a l.length c] 68)).heap[w.heap.size]? = some (Obj.cells #[Value.slice none 0 0] 118 (0, 0)) := (Below.heap_alloc _ _ _ (by simp)).trans (alloc1 w _)
    have a2 : ((w.alloc (Obj.cells #[Value.slice none 0 0] 118)).alloc (Obj.cells #[Value.slice a l.length c] 68)).heap[w.heap.size + 1]? = some (Obj.cells #[Value.slice a l.length c] 68 (0, 0)) := by
      have := alloc1 (w.alloc (Obj.cells #[Value.slice none 0 0] 118)) (Obj.cells #[Value.slice a l.length c] 68)
      rwa [World.size_alloc] at this
    exact ⟨⟨_, [], rfl, a1, World.ownsRow_nil _ _ _ _⟩, a2, ((Below.refl _ _).alloc (Nat.le_refl _) _).alloc (by simp) _⟩
  have hps : ((w.alloc (Obj.cells #[Value.slice none 0 0] 118)).alloc (Obj.cells #[Value.slice a l.length c] 68)).heap.size = w.heap.size + 2 := by simp
  generalize (w.alloc (Obj.cells #[Value.slice none 0 0] 118)).alloc (Obj.cells #[Value.slice a l.length c] 68) = W2 at *
  have HP := Lib.hid hps
  have hbd := nums_bd l
  have hseq := pairs_seq (w.heap.size + 1) a l.length c l (by omega)
  obtain ⟨ps, hpp⟩ : ∃ ps, pairsOf (numsOf l).1 = ps := ⟨_, rfl⟩
  have HU : Hid (∀ p ∈ ps, p.1 < 18446744073709551616 ∧ p.2 < 18446744073709551616) := Lib.hid (fun p hp => by
    rw [← hpp] at hp
    have := pairs_mem _ p hp
    exact ⟨hbd.2 _ this.1, hbd.2 _ this.2⟩)
  rw [hpp] at hJ0 hseq ⊢
  generalize pairsBad l = bad at hseq ⊢
  have HLN := Lib.hid hl
  clear hpp hbd hl
  refine rangeP_law Try.func123 (gf := 140) (lb := #[Value.pointer (some { block := w.heap.size + 1, off := 0 })]) rfl (enters_of Try.func140 (by kernel_rfl) rfl)
    (m := 6) (encs := ps.map pairE) (fun x hx => by obtain ⟨p, _, rfl⟩ := List.mem_map.1 hx; rfl) hseq
    (RunJ w ps (.slice a l.length c)) (fun ch X => ((bad = true ∨ unr ps = none) ∧ ch = corrupt) ∧ Below w.heap.size w X) (by rw [hps]; exact RunJ.ab) ?hJp (fun k X h => ⟨by rw [cell_of_row _ _ _ _ _ _ h.box]; rfl, H.out.below h.below⟩) hJ0
    (fun s X => RunJ w ps (.slice a l.length c) s.1 X ∧ ∃ u t, ps[s.1]? = some (u, t) ∧
      s.2 = { tmps := #[Value.slice a l.length c, undef, Value.slice none 0 0,
          Value.pointer (some { block := w.heap.size, off := 0 }), Value.int IntKind.u64 (u : Int), Value.int IntKind.u64 (t : Int),
          undef, Value.slice a l.length c,
          Value.func (Fn.func 140) #[] #[Value.pointer (some { block := w.heap.size + 1, off := 0 })],
          Value.int IntKind.u64 (u : Int), Value.int IntKind.u64 (t : Int), undef, undef, undef, undef, undef, undef, undef, undef,
          undef, undef, undef, undef, undef, undef, undef, undef, undef, undef, undef, undef, undef, undef, undef,
          undef, undef, undef, undef, undef, undef, undef, undef, undef, undef, undef, undef], defers := [] }) ?hM ?assign ?body (fun hf X h => ⟨⟨.inl hf, rfl⟩, h.below⟩) ?done ?pan
  case hJp =>
    rw [hps]
    intro s X Y row h hg hr
    exact ⟨h.1, h.2.trans ⟨hg.os, hg.tape, hg.output, hg.size, fun b hb => hg.block b (by have := h.2.size; omega) (fun e => by have := (hr b e.symm).1; omega)⟩⟩
  case hM =>
    rw [hps]
    intro s X Y row h hg hr
    exact ⟨RunJ.ab s.1 X Y row h.1 hg hr, h.2⟩
  case assign =>
    intro l' q hq X K h hK
    have hq2 : q < ps.length := by simpa using hq
    obtain ⟨u, t, e2⟩ : ∃ u t, ps[q] = (u, t) := ⟨_, _, rfl⟩
    have e : (ps.map pairE)[q] = #[Value.int .u64 (u : Int), Value.int .u64 (t : Int)] := by rw [List.getElem_map, e2]; rfl
    have hget : ps[q]? = some (u, t) := by rw [← e2]; exact List.getElem?_eq_getElem hq2
    rw [e]
    have HK := Lib.hid hK
    have HG := Lib.hid hget
    have HP2 := Lib.hid h
    clear hK e hget h e2
    simp only [List.zip_toArray, List.zip_cons_cons, List.zip_nil_right, List.foldl_toArray, List.foldl_cons, List.foldl_nil, List.setIfInBounds_toArray, List.set_cons_succ, List.set_cons_zero]
    gi_wp2
    exact HK.out _ _ (Held.refl _ _ _) ⟨HP2.out, u, t, HG.out, rfl⟩
  case body =>
    rintro l' q hq a₁ X ⟨h, u, t, hget, rfl⟩ hsz
    obtain ⟨v, acc, hacc, hb, hrow⟩ := h.row
    have hub := HU.out _ (List.mem_of_getElem? hget)
    have hL := unr_len hacc
    have hcell : X.cell? ⟨w.heap.size, 0, none⟩ = some v := by rw [cell_of_row _ _ _ _ _ _ hb]; rfl
    have hfr := free_of_row hb 0
    rw [hps] at hsz
    have hJp : ∀ X', Below w.heap.size w X' → (acc.getLast? = some (UInt64.ofNat u) ∨ t = 0 ∨ 100000 - acc.length < t) → (bad = true ∨ unr ps = none) ∧ Below w.heap.size w X' := fun X' hX hc => ⟨.inr (unr_take (k := q + 1) (by
      obtain ⟨hlt, hg2⟩ := List.getElem?_eq_some_iff.1 hget
      rw [List.take_succ_eq_append_getElem hlt, hg2, unr_snoc, hacc, unrStep, if_pos hc])), hX⟩
    obtain ⟨va, vc, hv, hvc⟩ := ownsRow_form hrow
    obtain ⟨L, hLe⟩ : ∃ L, acc.length = L := ⟨_, rfl⟩
    rw [hLe] at hrow hL hv hvc
    subst hv
    have HLE := Lib.hid hLe
    have HJP := Lib.hid hJp
    have HX := Lib.hid h
    have HROW := Lib.hid hrow
    have HB := Lib.hid hb
    have HACC := Lib.hid hacc
    have HGET := Lib.hid hget
    have HUB := Lib.hid hub
    have HSZ := Lib.hid hsz
    clear hJp h hrow hb hacc hget hub hsz hLe
    by_cases hz : L = 0
    · have t1 : decide (((0 : Nat) : Int) > 0) = false := rfl
      have hnl : ¬ acc.getLast? = some (UInt64.ofNat u) := by rw [List.eq_nil_of_length_eq_zero (HLE.out.trans hz)]; intro h; cases h
      subst hz
      by_cases h0 : t = 0
      · have t2 : ((t : Int) == 0) = true := by rw [h0]; rfl
        gi_wp2_with fail
        exact ⟨rfl, Held.refl _ _ _, ⟨(HJP.out _ HX.out.below (.inr (.inl h0))).1, rfl⟩, HX.out.below⟩
      · have t2 : ((t : Int) == 0) = false := by rw [beq_eq_false_iff_ne]; omega
        by_cases h1 : 100000 - 0 < t
        · have t3 : decide ((t : Int) > 100000) = true := decide_eq_true (by omega)
          have t4 : decide ((100000 : Int) < (t : Int)) = true := decide_eq_true (by omega)
          gi_wp2_with fail
          exact ⟨rfl, Held.refl _ _ _, ⟨(HJP.out _ HX.out.below (.inr (.inr (by rw [HLE.out]; exact h1)))).1, rfl⟩, HX.out.below⟩
        · have t3 : decide ((t : Int) > 100000) = false := decide_eq_false (by omega)
          have t4 : decide ((100000 : Int) < (t : Int)) = false := decide_eq_false (by omega)
          have hn : ¬ (acc.getLast? = some (UInt64.ofNat u) ∨ t = 0 ∨ 100000 - acc.length < t) := by rw [HLE.out]; rintro (h | h | h) <;> contradiction
          have ht : (t : Int) ≤ 100000 := by omega
          have hwr : IntKind.i64.wrap (t : Int) = (t : Int) := IntWalk.i64_in _ (by omega)
          have hU : (UInt64.ofNat u).toNat = u := by rw [UInt64.toNat_ofNat']; exact Nat.mod_eq_of_lt HUB.out.1
          have STEP : Hid (∀ w2 sv, Below (X.heap.size + 1) (X.drew.alloc (.cells #[.int .u64 (u : Int)] 116)) w2 → Holds w2 sv (u64s (List.replicate t (UInt64.ofNat u))) →
              ∃ v2 w3, (∃ ba bn bc, v2 = .slice ba bn bc) ∧ Hid (∀ ty, (Builtin.append_ #[118, 118] ty #[.slice va 0 vc, sv]).run Try.prog w2 = .ok v2 w3) ∧ w2.cell? ⟨w.heap.size, 0, none⟩ = some (.slice va 0 vc) ∧
                w3.cell? ⟨w.heap.size, 0, none⟩ = some (.slice va 0 vc) ∧ w3.frozen? ⟨w.heap.size, 0, none⟩ = false ∧ Hid (∀ a', Exit.inBlock 1 (goesP W2.heap.size (6 + 2) (RunJ w ps (.slice a l.length c) (q + 1)) (fun ch X => ((bad = true ∨ unr ps = none) ∧ ch = corrupt) ∧ Below w.heap.size w X) X) .normal a' (w3.setCell ⟨w.heap.size, 0, none⟩ v2))) := Lib.hid (fun w2 sv h1 h2 => by
            obtain ⟨v2, w3, r0, r1, r2, r3, r4, r5⟩ := HX.out.step HGET.out HACC.out hn HB.out (by rw [HLE.out]; exact HROW.out) (by have := HSZ.out; omega) (by rw [hU]; exact h1) h2
            exact ⟨v2, w3, r0, r1, r2, r3, r4, Lib.hid (fun a' => by rw [hps]; exact r5.out)⟩)
          have hXs : (X.drew.alloc (.cells #[.int .u64 (u : Int)] 116)).heap.size = X.heap.size + 1 := World.size_alloc X.drew _
          have KR : Hid (Calls Try.prog 136 #[.slice (some ⟨X.heap.size, 0, none⟩) 1 1, .int .i64 (t : Int)] (X.drew.alloc (.cells #[.int .u64 (u : Int)] 116)) fun e w' => ∃ v, e = .returned v ∧ Hid (Holds w' v (u64s (List.replicate t (UInt64.ofNat u))) ∧ Below (X.heap.size + 1) (X.drew.alloc (.cells #[.int .u64 (u : Int)] 116)) w')) := Lib.hid (by
            rw [← hXs]
            exact Repeat_one (UInt64.ofNat u) t (by omega) (by omega) (by rw [hU, cell_of_row _ _ _ _ _ _ (show (X.drew.alloc (.cells #[.int .u64 (u : Int)] 116)).heap[X.heap.size]? = _ from alloc1 X.drew _)]; rfl))
          have hcell2 : (X.alloc (.cells #[.int .u64 (u : Int)] 116)).cell? ⟨w.heap.size, 0, none⟩ = some (.slice va 0 vc) := by
            rw [((Below.refl X.heap.size X).alloc (Nat.le_refl _) _).cell (p := ⟨w.heap.size, 0, none⟩) (by have := HSZ.out; show w.heap.size < _; omega)]; exact hcell
          clear hXs
          gi_wp2_with fail
          refine round_region_any hmix (by decide +kernel) (fun ⟨_, _, h⟩ => h) ?_
          change wpAny _ _ _ _ _ _ _ (World.drew _)
          refine wpAny_take (i := 1) (v := .int .u64 (u : Int)) rfl (by kernel_rfl) (by kernel_rfl) (by kernel_rfl) (fun _ _ _ h => h) (Or.inl ⟨by rfl, fun w => by go_simp⟩) ?_
          refine wpAny_take (i := 3) (v := .int .u64 (t : Int)) rfl (by kernel_rfl) (by kernel_rfl) (by kernel_rfl) (fun _ _ _ h => h) (Or.inl ⟨by rfl, fun w => by go_simp⟩) ?_
          refine wpAny_take (i := 4) (v := .int .i64 (t : Int)) rfl (by kernel_rfl) (by kernel_rfl) (by kernel_rfl) (fun _ _ _ h => h) (Or.inl ⟨by rfl, fun w => by go_simp⟩) ?_
          refine wpAny_ready (rs := [0, 2]) (by kernel_rfl) (by simp) ?_
          refine AllReady.cons rfl (fun K hK => ?_) (AllReady.cons rfl (fun K hK => ?_) AllReady.nil)
          · go_simp
            refine hK _ _ ?_
            clear hK K
            refine wpAny_ready (rs := [2]) (by kernel_rfl) (by simp) ?_
            refine AllReady.cons rfl (fun K hK => ?_) AllReady.nil
            go_simp
            refine hK _ _ ?_
            clear hK K
            refine wpAny_ready (rs := [5]) (by kernel_rfl) (by simp) ?_
            refine AllReady.cons rfl (fun K hK => ?_) AllReady.nil
            go_simp
            refine (KR.out).mono ?_
            rintro e w2 ⟨sv, rfl, hR⟩
            obtain ⟨v2, w3, ⟨ba, bn, bc, rfl⟩, HRUN, hcw2, hcw3, hfw3, HST⟩ := STEP.out w2 sv hR.out.2 hR.out.1
            refine hK _ _ ?_
            clear hK K hR
            refine wpAny_ready (rs := [6]) (by kernel_rfl) (by simp) ?_
            refine AllReady.cons rfl (fun K hK => ?_) AllReady.nil
            refine step_append_run rfl (.tmp 38) (.tmp 43) 118 rfl rfl rfl (HRUN.out _) ?_
            refine hK _ _ ?_
            clear hK K
            refine wpAny_ready (rs := [7]) (by kernel_rfl) (by simp) ?_
            refine AllReady.cons rfl (fun K hK => ?_) AllReady.nil
            go_simp
            refine hK _ _ ?_
            clear hK K
            exact wpAny_done (by kernel_rfl) (HST.out _) _
          · go_simp
            refine hK _ _ ?_
            clear hK K
            refine wpAny_ready (rs := [0, 5]) (by kernel_rfl) (by simp) ?_
            refine AllReady.cons rfl (fun K hK => ?_) (AllReady.cons rfl (fun K hK => ?_) AllReady.nil)
            · go_simp
              refine hK _ _ ?_
              clear hK K
              refine wpAny_ready (rs := [5]) (by kernel_rfl) (by simp) ?_
              refine AllReady.cons rfl (fun K hK => ?_) AllReady.nil
              go_simp
              refine (KR.out).mono ?_
              rintro e w2 ⟨sv, rfl, hR⟩
              obtain ⟨v2, w3, ⟨ba, bn, bc, rfl⟩, HRUN, hcw2, hcw3, hfw3, HST⟩ := STEP.out w2 sv hR.out.2 hR.out.1
              refine hK _ _ ?_
              clear hK K hR
              refine wpAny_ready (rs := [6]) (by kernel_rfl) (by simp) ?_
              refine AllReady.cons rfl (fun K hK => ?_) AllReady.nil
              refine step_append_run rfl (.tmp 38) (.tmp 43) 118 rfl rfl rfl (HRUN.out _) ?_
              refine hK _ _ ?_
              clear hK K
              refine wpAny_ready (rs := [7]) (by kernel_rfl) (by simp) ?_
              refine AllReady.cons rfl (fun K hK => ?_) AllReady.nil
              go_simp
              refine hK _ _ ?_
              clear hK K
              exact wpAny_done (by kernel_rfl) (HST.out _) _
            · go_simp
              refine (KR.out).mono ?_
              rintro e w2 ⟨sv, rfl, hR⟩
              obtain ⟨v2, w3, ⟨ba, bn, bc, rfl⟩, HRUN, hcw2, hcw3, hfw3, HST⟩ := STEP.out w2 sv hR.out.2 hR.out.1
              refine hK _ _ ?_
              clear hK K hR
              refine wpAny_ready (rs := [0]) (by kernel_rfl) (by simp) ?_
              refine AllReady.cons rfl (fun K hK => ?_) AllReady.nil
              go_simp
              refine hK _ _ ?_
              clear hK K
              refine wpAny_ready (rs := [6]) (by kernel_rfl) (by simp) ?_
              refine AllReady.cons rfl (fun K hK => ?_) AllReady.nil
              refine step_append_run rfl (.tmp 38) (.tmp 43) 118 rfl rfl rfl (HRUN.out _) ?_
              refine hK _ _ ?_
              clear hK K
              refine wpAny_ready (rs := [7]) (by kernel_rfl) (by simp) ?_
              refine AllReady.cons rfl (fun K hK => ?_) AllReady.nil
              go_simp
              refine hK _ _ ?_
              clear hK K
              exact wpAny_done (by kernel_rfl) (HST.out _) _
    · have t1 : decide ((L : Int) > 0) = true := decide_eq_true (by omega)
      have hq1 : L - 1 < acc.length := by have := HLE.out; omega
      have hHo : Holds X (.slice va L vc) (u64s acc) := Holds.of_row (by rw [u64s_len, HLE.out]; exact HROW.out)
      obtain ⟨ad, rfl⟩ := hHo.ptr (by omega)
      have hlast : X.cell? (ad.add (L - 1)) = some (.int .u64 (acc[L - 1].toNat : Int)) := hHo.cell (by rw [u64s, List.getElem?_map, List.getElem?_eq_getElem hq1]; rfl)
      have hgl : acc.getLast? = some (UInt64.ofNat u) ↔ acc[L - 1].toNat = u := by
        rw [List.getLast?_eq_getElem?, HLE.out, List.getElem?_eq_getElem hq1, Option.some.injEq]
        constructor
        · intro h; rw [h, UInt64.toNat_ofNat']; exact Nat.mod_eq_of_lt HUB.out.1
        · intro h; rw [← h]; exact (UInt64.ofNat_toNat).symm
      generalize acc[L - 1].toNat = z at hlast hgl
      have HGL := Lib.hid hgl
      clear hgl hHo
      by_cases hzu : z = u
      · have t5 : ((z : Int) == (u : Int)) = true := by rw [hzu]; exact beq_self_eq_true _
        have HC : Hid (acc.getLast? = some (UInt64.ofNat u)) := Lib.hid (HGL.out.2 hzu)
        clear hzu
        gi_wp2_with fail
        exact ⟨rfl, Held.refl _ _ _, ⟨(HJP.out _ HX.out.below (.inl HC.out)).1, rfl⟩, HX.out.below⟩
      · have t5 : ((z : Int) == (u : Int)) = false := by rw [beq_eq_false_iff_ne]; omega
        have hnl : ¬ acc.getLast? = some (UInt64.ofNat u) := fun h => hzu (HGL.out.1 h)
        clear hzu
        by_cases h0 : t = 0
        · have t2 : ((t : Int) == 0) = true := by rw [h0]; rfl
          gi_wp2_with fail
          exact ⟨rfl, Held.refl _ _ _, ⟨(HJP.out _ HX.out.below (.inr (.inl h0))).1, rfl⟩, HX.out.below⟩
        · have t2 : ((t : Int) == 0) = false := by rw [beq_eq_false_iff_ne]; omega
          by_cases h1 : 100000 - L < t
          · have t3 : decide ((t : Int) > 100000 - (L : Int)) = true := decide_eq_true (by omega)
            have t4 : decide (100000 - (L : Int) < (t : Int)) = true := decide_eq_true (by omega)
            gi_wp2_with fail
            exact ⟨rfl, Held.refl _ _ _, ⟨(HJP.out _ HX.out.below (.inr (.inr (by rw [HLE.out]; exact h1)))).1, rfl⟩, HX.out.below⟩
          · have t3 : decide ((t : Int) > 100000 - (L : Int)) = false := decide_eq_false (by omega)
            have t4 : decide (100000 - (L : Int) < (t : Int)) = false := decide_eq_false (by omega)
            have hn : ¬ (acc.getLast? = some (UInt64.ofNat u) ∨ t = 0 ∨ 100000 - acc.length < t) := by rw [HLE.out]; rintro (h | h | h) <;> contradiction
            have ht : (t : Int) ≤ 100000 := by omega
            have hwr : IntKind.i64.wrap (t : Int) = (t : Int) := IntWalk.i64_in _ (by omega)
            have hU : (UInt64.ofNat u).toNat = u := by rw [UInt64.toNat_ofNat']; exact Nat.mod_eq_of_lt HUB.out.1
            have STEP : Hid (∀ w2 sv, Below (X.heap.size + 1) (X.drew.alloc (.cells #[.int .u64 (u : Int)] 116)) w2 → Holds w2 sv (u64s (List.replicate t (UInt64.ofNat u))) →
                ∃ v2 w3, (∃ ba bn bc, v2 = .slice ba bn bc) ∧ Hid (∀ ty, (Builtin.append_ #[118, 118] ty #[.slice (some ad) L vc, sv]).run Try.prog w2 = .ok v2 w3) ∧ w2.cell? ⟨w.heap.size, 0, none⟩ = some (.slice (some ad) L vc) ∧
                  w3.cell? ⟨w.heap.size, 0, none⟩ = some (.slice (some ad) L vc) ∧ w3.frozen? ⟨w.heap.size, 0, none⟩ = false ∧ Hid (∀ a', Exit.inBlock 1 (goesP W2.heap.size (6 + 2) (RunJ w ps (.slice a l.length c) (q + 1)) (fun ch X => ((bad = true ∨ unr ps = none) ∧ ch = corrupt) ∧ Below w.heap.size w X) X) .normal a' (w3.setCell ⟨w.heap.size, 0, none⟩ v2))) := Lib.hid (fun w2 sv h1 h2 => by
              obtain ⟨v2, w3, r0, r1, r2, r3, r4, r5⟩ := HX.out.step HGET.out HACC.out hn HB.out (by rw [HLE.out]; exact HROW.out) (by have := HSZ.out; omega) (by rw [hU]; exact h1) h2
              exact ⟨v2, w3, r0, r1, r2, r3, r4, Lib.hid (fun a' => by rw [hps]; exact r5.out)⟩)
            have hXs : (X.drew.alloc (.cells #[.int .u64 (u : Int)] 116)).heap.size = X.heap.size + 1 := World.size_alloc X.drew _
            have KR : Hid (Calls Try.prog 136 #[.slice (some ⟨X.heap.size, 0, none⟩) 1 1, .int .i64 (t : Int)] (X.drew.alloc (.cells #[.int .u64 (u : Int)] 116)) fun e w' => ∃ v, e = .returned v ∧ Hid (Holds w' v (u64s (List.replicate t (UInt64.ofNat u))) ∧ Below (X.heap.size + 1) (X.drew.alloc (.cells #[.int .u64 (u : Int)] 116)) w')) := Lib.hid (by
              rw [← hXs]
              exact Repeat_one (UInt64.ofNat u) t (by omega) (by omega) (by rw [hU, cell_of_row _ _ _ _ _ _ (show (X.drew.alloc (.cells #[.int .u64 (u : Int)] 116)).heap[X.heap.size]? = _ from alloc1 X.drew _)]; rfl))
            have hcell2 : (X.alloc (.cells #[.int .u64 (u : Int)] 116)).cell? ⟨w.heap.size, 0, none⟩ = some (.slice (some ad) L vc) := by
              rw [((Below.refl X.heap.size X).alloc (Nat.le_refl _) _).cell (p := ⟨w.heap.size, 0, none⟩) (by have := HSZ.out; show w.heap.size < _; omega)]; exact hcell
            clear hXs
            gi_wp2_with fail
            refine round_region_any hmix (by decide +kernel) (fun ⟨_, _, h⟩ => h) ?_
            change wpAny _ _ _ _ _ _ _ (World.drew _)
            refine wpAny_take (i := 1) (v := .int .u64 (u : Int)) rfl (by kernel_rfl) (by kernel_rfl) (by kernel_rfl) (fun _ _ _ h => h) (Or.inl ⟨by rfl, fun w => by go_simp⟩) ?_
            refine wpAny_take (i := 3) (v := .int .u64 (t : Int)) rfl (by kernel_rfl) (by kernel_rfl) (by kernel_rfl) (fun _ _ _ h => h) (Or.inl ⟨by rfl, fun w => by go_simp⟩) ?_
            refine wpAny_take (i := 4) (v := .int .i64 (t : Int)) rfl (by kernel_rfl) (by kernel_rfl) (by kernel_rfl) (fun _ _ _ h => h) (Or.inl ⟨by rfl, fun w => by go_simp⟩) ?_
            refine wpAny_ready (rs := [0, 2]) (by kernel_rfl) (by simp) ?_
            refine AllReady.cons rfl (fun K hK => ?_) (AllReady.cons rfl (fun K hK => ?_) AllReady.nil)
            · go_simp
              refine hK _ _ ?_
              clear hK K
              refine wpAny_ready (rs := [2]) (by kernel_rfl) (by simp) ?_
              refine AllReady.cons rfl (fun K hK => ?_) AllReady.nil
              go_simp
              refine hK _ _ ?_
              clear hK K
              refine wpAny_ready (rs := [5]) (by kernel_rfl) (by simp) ?_
              refine AllReady.cons rfl (fun K hK => ?_) AllReady.nil
              go_simp
              refine (KR.out).mono ?_
              rintro e w2 ⟨sv, rfl, hR⟩
              obtain ⟨v2, w3, ⟨ba, bn, bc, rfl⟩, HRUN, hcw2, hcw3, hfw3, HST⟩ := STEP.out w2 sv hR.out.2 hR.out.1
              refine hK _ _ ?_
              clear hK K hR
              refine wpAny_ready (rs := [6]) (by kernel_rfl) (by simp) ?_
              refine AllReady.cons rfl (fun K hK => ?_) AllReady.nil
              refine step_append_run rfl (.tmp 38) (.tmp 43) 118 rfl rfl rfl (HRUN.out _) ?_
              refine hK _ _ ?_
              clear hK K
              refine wpAny_ready (rs := [7]) (by kernel_rfl) (by simp) ?_
              refine AllReady.cons rfl (fun K hK => ?_) AllReady.nil
              go_simp
              refine hK _ _ ?_
              clear hK K
              exact wpAny_done (by kernel_rfl) (HST.out _) _
            · go_simp
              refine hK _ _ ?_
              clear hK K
              refine wpAny_ready (rs := [0, 5]) (by kernel_rfl) (by simp) ?_
              refine AllReady.cons rfl (fun K hK => ?_) (AllReady.cons rfl (fun K hK => ?_) AllReady.nil)
              · go_simp
                refine hK _ _ ?_
                clear hK K
                refine wpAny_ready (rs := [5]) (by kernel_rfl) (by simp) ?_
                refine AllReady.cons rfl (fun K hK => ?_) AllReady.nil
                go_simp
                refine (KR.out).mono ?_
                rintro e w2 ⟨sv, rfl, hR⟩
                obtain ⟨v2, w3, ⟨ba, bn, bc, rfl⟩, HRUN, hcw2, hcw3, hfw3, HST⟩ := STEP.out w2 sv hR.out.2 hR.out.1
                refine hK _ _ ?_
                clear hK K hR
                refine wpAny_ready (rs := [6]) (by kernel_rfl) (by simp) ?_
                refine AllReady.cons rfl (fun K hK => ?_) AllReady.nil
                refine step_append_run rfl (.tmp 38) (.tmp 43) 118 rfl rfl rfl (HRUN.out _) ?_
                refine hK _ _ ?_
                clear hK K
                refine wpAny_ready (rs := [7]) (by kernel_rfl) (by simp) ?_
                refine AllReady.cons rfl (fun K hK => ?_) AllReady.nil
                go_simp
                refine hK _ _ ?_
                clear hK K
                exact wpAny_done (by kernel_rfl) (HST.out _) _
              · go_simp
                refine (KR.out).mono ?_
                rintro e w2 ⟨sv, rfl, hR⟩
                obtain ⟨v2, w3, ⟨ba, bn, bc, rfl⟩, HRUN, hcw2, hcw3, hfw3, HST⟩ := STEP.out w2 sv hR.out.2 hR.out.1
                refine hK _ _ ?_
                clear hK K hR
                refine wpAny_ready (rs := [0]) (by kernel_rfl) (by simp) ?_
                refine AllReady.cons rfl (fun K hK => ?_) AllReady.nil
                go_simp
                refine hK _ _ ?_
                clear hK K
                refine wpAny_ready (rs := [6]) (by kernel_rfl) (by simp) ?_
                refine AllReady.cons rfl (fun K hK => ?_) AllReady.nil
                refine step_append_run rfl (.tmp 38) (.tmp 43) 118 rfl rfl rfl (HRUN.out _) ?_
                refine hK _ _ ?_
                clear hK K
                refine wpAny_ready (rs := [7]) (by kernel_rfl) (by simp) ?_
                refine AllReady.cons rfl (fun K hK => ?_) AllReady.nil
                go_simp
                refine hK _ _ ?_
                clear hK K
                exact wpAny_done (by kernel_rfl) (HST.out _) _
  case done =>
    intro hfin X h hX hD
    rw [List.length_map] at h
    obtain ⟨v, acc, hacc, hb, hrow⟩ := h.row
    rw [List.take_length] at hacc
    have hcell : X.cell? ⟨w.heap.size, 0, none⟩ = some v := by rw [cell_of_row _ _ _ _ _ _ hb]; rfl
    have HX := Lib.hid (And.intro h hD)
    have HR := Lib.hid hrow
    have HF := Lib.hid hfin
    have HA := Lib.hid hacc
    clear h hD hb hrow hX hfin hacc
    show WpFor _ _ _ _ _ _
    refine .of_wpIn ?_
    gi_wp2_with fail
    refine leave_marks (v := v) (B := w.heap.size) (fun w' => by simp [results, Try.results123, go_sem]) _ X ⟨_, rfl, by omega, by rw [← hps]; exact HX.out.2, (fun _ h => nomatch h), trivial⟩ (fun W' hs => ?_)
    refine .inl ⟨acc, HF.out, HA.out, v, rfl, Lib.hid ⟨?_, HX.out.1.below.trans hs.below⟩⟩
    refine ownsRow_of_block (ownsRow_rebase HR.out (fun g hg => by have := (HR.out.lt g hg).1; omega)) (fun g hg => hs.block g (.inr (fun e => ?_)))
    have := own_cells HR.out g _ hg e
    cases this
  case pan =>
    rintro ch X ⟨⟨hf, rfl⟩, hbel⟩ hD
    exact leave_mark_panic hD (.inr ⟨hf, rfl, ⟨hbel.os, hbel.tape, hbel.output, by simp; exact hbel.size, fun k hk => (World.putObj_heap_other (by omega)).trans (hbel.block k hk)⟩⟩)
theorem unr_inner_ok {w : World} {b : Nat} {x : Value} (h1 : w.cell? ⟨b, 0, none⟩ = some x) {Q : Value → World → Prop}
    (h : Calls Try.prog 123 #[x] w fun e w' => ∃ v, e = .returned v ∧ Hid (Q v w')) :
    Calls Try.prog 122 #[.pointer (some ⟨b, 0, none⟩)] w fun e w' => ∃ v, e = .returned v ∧ Hid (Q v w') := by
  have HC := Lib.hid h
  clear h
  go_enter Try.func122, Try.ntmps122
  go_wp2_with fail
  refine HC.out.mono ?_
  rintro e w' ⟨v, rfl, hv⟩
  go_wp2
  simp [bodyPost, results, Try.results122, hv]
theorem unr_inner_panic {w : World} {b : Nat} {x : Value} (h1 : w.cell? ⟨b, 0, none⟩ = some x) {Q : World → Prop} {ch : List PanicEntry}
    (h : Calls Try.prog 123 #[x] w fun e w' => e = .panicked ch ∧ Q w') :
    Calls Try.prog 122 #[.pointer (some ⟨b, 0, none⟩)] w fun e w' => e = .panicked ch ∧ Q w' := by
  have HC := Lib.hid h
  clear h
  go_enter Try.func122, Try.ntmps122
  go_wp2_with fail
  refine HC.out.mono ?_
  rintro e w' ⟨rfl, hv⟩
  go_wp2
  simp [bodyPost, hv]
theorem enter_unr (args : Array Value) (w : World) : (callFunc 122 args).run Try.prog w = .ok (.enter 122 args) w := by kernel_rfl
/-- what Unruns answers: the numbers, or none and ErrCorrupt -/
def unrAns (bs : List UInt8) : List UInt64 × Int := if pairsBad bs then ([], 8) else match unr (pairsOf (numsOf bs).1) with | none => ([], 8) | some a => (a, 0)
theorem unrAns_ok {bs : List UInt8} {a : List UInt64} (h1 : pairsBad bs = false) (h2 : unr (pairsOf (numsOf bs).1) = some a) : unrAns bs = (a, 0) := by
  rw [unrAns, h1, h2]; rfl
theorem unrAns_bad {bs : List UInt8} (h : pairsBad bs = true ∨ unr (pairsOf (numsOf bs).1) = none) : unrAns bs = ([], 8) := by
  rw [unrAns]
  rcases h with h | h
  · rw [h]; rfl
  · rw [h]; split <;> rfl
set_option maxHeartbeats 800000 in
theorem Unruns_any {w : World} {v : Value} {l : List UInt8} (h : Holds w v (u8s l)) (hl : l.length ≤ 300000) :
    Calls Try.prog 103 #[v] w fun e w' => ∃ r, e = .returned (.tuple #[r, .int .i64 (unrAns l).2]) ∧ Hid (w'.ownsRow w.heap.size 116 1 r (unrAns l).1.length (u64s (unrAns l).1) ∧ Below w.heap.size w w') := by
  have hmf : ∀ (fn : Fn) (first cap : Array Value) (w : World), (Instr.makeFunc fn first cap).run Try.prog w = .ok (.func fn first cap) w := fun _ _ _ _ => rfl
  obtain ⟨a, c, hv, hc⟩ := h.form
  rw [u8s_len] at hv
  subst hv
  by_cases hgood : ∃ acc, pairsBad l = false ∧ unr (pairsOf (numsOf l).1) = some acc
  · obtain ⟨acc, hb, hacc⟩ := hgood
    rw [unrAns_ok hb hacc]
    have HF : Hid (Calls Try.prog 121 #[.func (.func 122) #[] #[.pointer (some ⟨w.heap.size, 0, none⟩)]] (w.alloc (.cells #[.slice a l.length c] 68))
        fun e w' => ∃ r, e = .returned (.tuple #[r, .int .i64 0]) ∧ Hid (w'.ownsRow w.heap.size 116 1 r acc.length (u64s acc) ∧ Below w.heap.size w w')) := by
      refine Lib.hid ((face_ok (k := acc.length) (xs := u64s acc) enter_unr fun W hW => ?_).mono ?_)
      · obtain ⟨h1, h4⟩ := box1 (by simpa using hW)
        refine unr_inner_ok h1 ((readRuns_any (h.below h4) hl).mono ?_)
        rintro e w' (⟨acc2, _, hacc2, r, rfl, hr⟩ | ⟨hx, _⟩)
        · rw [hacc] at hacc2
          cases hacc2
          exact ⟨r, rfl, hr⟩
        · rw [hb, hacc] at hx; rcases hx with hx | hx <;> cases hx
      · rintro e w' ⟨r, rfl, hv⟩
        refine ⟨r, rfl, Lib.hid ⟨ownsRow_rebase hv.out.1 fun g hg => ?_, ?_⟩⟩
        · have := ownsRow_ge hv.out.1 g hg
          simp at this
          omega
        · exact (box1 (by simpa using hv.out.2)).2
    clear h hb hacc
    go_enter Try.func103, Try.ntmps103
    go_wp2_with fail
    refine HF.out.mono ?_
    rintro e w' ⟨r, rfl, hv⟩
    go_wp2_with fail
    simp [bodyPost, results, Try.results103, go_sem]
    exact hv
  · have hbad : pairsBad l = true ∨ unr (pairsOf (numsOf l).1) = none := by
      cases hb : pairsBad l with
      | true => exact .inl rfl
      | false =>
        cases hu : unr (pairsOf (numsOf l).1) with
        | none => exact .inr rfl
        | some acc => exact absurd ⟨acc, hb, hu⟩ hgood
    rw [unrAns_bad hbad]
    have HF : Hid (Calls Try.prog 121 #[.func (.func 122) #[] #[.pointer (some ⟨w.heap.size, 0, none⟩)]] (w.alloc (.cells #[.slice a l.length c] 68))
        fun e w' => e = .returned (.tuple #[.slice none 0 0, .int .i64 8]) ∧ Below w.heap.size w w') := by
      refine Lib.hid ((face_panic (n := 8) enter_unr fun W hW => ?_).mono ?_)
      · obtain ⟨h1, h4⟩ := box1 (by simpa using hW)
        refine unr_inner_panic h1 ((readRuns_any (h.below h4) hl).mono ?_)
        rintro e w' (⟨acc2, h5, h6, _⟩ | ⟨_, rfl, hr⟩)
        · exact absurd ⟨acc2, h5, h6⟩ hgood
        · exact ⟨rfl, hr⟩
      · rintro e w' ⟨rfl, hv⟩
        exact ⟨rfl, (box1 (by simpa using hv)).2⟩
    clear h hgood hbad
    go_enter Try.func103, Try.ntmps103
    go_wp2_with fail
    refine HF.out.mono ?_
    rintro e w' ⟨rfl, hv⟩
    go_wp2_with fail
    have HV := Lib.hid hv
    clear hv
    simp [bodyPost, results, Try.results103, go_sem]
    exact Lib.hid ⟨World.ownsRow_nil _ _ _ _, HV.out⟩
end Go.Proofs.Ytcpfkinjglnabaa
