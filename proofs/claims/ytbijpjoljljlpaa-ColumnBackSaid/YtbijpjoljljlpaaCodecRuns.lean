/- Contract of codec.Runs: numbers, and how often they come. Conditions: at most a million numbers. -/
import Derived.Test.YtbijpjoljljlpaaCodecLongest
import Derived.Test.YtbijpjoljljlpaaCodecPut
set_option maxRecDepth 100000
namespace Go.Proofs.Ytbijpjoljljlpaa
open Go.RowKit Go.Maps Go.Sort
attribute [local go_sem] Oper.semAt_some

def runsB (l : List (UInt64 × Nat)) : List UInt8 := l.flatMap fun p => dig p.1.toNat ++ dig p.2
theorem runsB_snoc (l : List (UInt64 × Nat)) (p : UInt64 × Nat) : runsB (l ++ [p]) = runsB l ++ dig p.1.toNat ++ dig p.2 := by simp [runsB]
theorem runs_le (l : List UInt64) : (runsOf l).length ≤ l.length ∧ ∀ p ∈ runsOf l, 1 ≤ p.2 ∧ p.2 ≤ l.length := by
  induction l with
  | nil => exact ⟨Nat.le_refl _, fun p hp => by cases hp⟩
  | cons u r ih =>
    rw [runsOf]
    split
    · refine ⟨by simp, fun p hp => ?_⟩
      simp at hp; subst hp; simp
    · rename_i v n t heq
      rw [heq] at ih
      split
      · refine ⟨by have := ih.1; simp at this ⊢; omega, fun p hp => ?_⟩
        rcases List.mem_cons.1 hp with rfl | hp
        · have := ih.2 (v, n) List.mem_cons_self; simp at this ⊢; omega
        · have := ih.2 p (List.mem_cons_of_mem _ hp); simp; omega
      · refine ⟨by have := ih.1; simp at this ⊢; omega, fun p hp => ?_⟩
        rcases List.mem_cons.1 hp with rfl | hp
        · simp
        · have := ih.2 p hp; simp; omega
theorem runsB_len (l : List (UInt64 × Nat)) (h : ∀ p ∈ l, p.2 < 18446744073709551616) : (runsB l).length ≤ 20 * l.length := by
  induction l with
  | nil => simp [runsB]
  | cons p r ih =>
    have h1 := ih (fun q hq => h q (List.mem_cons_of_mem _ hq))
    have h2 := dig_len10 p.1.toNat_lt
    have h3 := dig_len10 (h p List.mem_cons_self)
    simp [runsB] at h1 ⊢
    omega

/-- where Runs stands behind k runs: the box of its bytes lies at w.heap.size, that of the list behind it -/
structure RunsJ (w : World) (l : List UInt64) (v0 : Value) (k : Nat) (X : World) : Prop where
  row : ∃ v, X.heap[w.heap.size]? = some (.cells #[v] 28 (0, 0)) ∧ X.ownsRow (w.heap.size + 2) 5 1 v (runsB ((runsOf l).take k)).length (u8s (runsB ((runsOf l).take k)))
  box : X.heap[w.heap.size + 1]? = some (.cells #[v0] 46 (0, 0))
  below : Below w.heap.size w X
  size : w.heap.size + 2 ≤ X.heap.size

theorem RunsJ.own {w : World} {l : List UInt64} {v0 : Value} {S : Nat} (hS : w.heap.size + 2 ≤ S) : OwnFrom S (RunsJ w l v0) := by
  intro k X Y row h hg hr
  have hr' : ∀ r, row = some r → S ≤ r := fun r e => (hr r e).1
  obtain ⟨v, h1, h2⟩ := h.row
  refine ⟨⟨v, ?_, ?_⟩, ?_, ?_, Nat.le_trans h.size hg.size⟩
  · exact (hg.block _ (Array.getElem?_eq_some_iff.1 h1).1 (fun e => by have := hr' _ e.symm; omega)).trans h1
  · refine ownsRow_of_block h2 (fun g hgv => hg.block g (h2.lt g hgv).2 (fun e => ?_))
    obtain ⟨_, o, ho, hc⟩ := hr g e.symm
    rcases h2.2 with ⟨rfl, _⟩ | ⟨g', cap, cur, rfl, _, hh, _⟩
    · cases hgv
    · simp [Value.ownBlock] at hgv
      subst hgv
      rw [hh] at ho
      cases ho
      cases hc
  · exact (hg.block _ (Array.getElem?_eq_some_iff.1 h.box).1 (fun e => by have := hr' _ e.symm; omega)).trans h.box
  · exact h.below.trans (below_grown hg h.below.size (fun g e => by have := hr' g e; omega))

theorem own_cells {w : World} {base : Nat} {e : TypeId} {v : Value} {n : Nat} {xs : List Value} (h : w.ownsRow base e 1 v n xs) : ∀ (j : Nat) (o : Obj), v.ownBlock = some j → w.heap[j]? = some o → o.isCells = true := by
  intro j o hj ho
  rcases h.2 with ⟨rfl, _⟩ | ⟨g', cap, cur, rfl, _, hh, _⟩
  · cases hj
  · simp [Value.ownBlock] at hj
    subst hj
    rw [hh] at ho
    cases ho
    rfl

/-- one run more is written -/
theorem RunsJ.step {w : World} {l : List UInt64} {v0 : Value} {k : Nat} {X w1 w2 : World} {v v1 v2 : Value} {u : UInt64} {t : Nat} (h : RunsJ w l v0 k X) (hk : (runsOf l)[k]? = some (u, t))
    (hb : X.heap[w.heap.size]? = some (.cells #[v] 28 (0, 0))) (hv : X.ownsRow (w.heap.size + 2) 5 1 v (runsB ((runsOf l).take k)).length (u8s (runsB ((runsOf l).take k))))
    (hv1 : w1.ownsRow (w.heap.size + 2) 5 1 v1 (runsB ((runsOf l).take k) ++ dig u.toNat).length (u8s (runsB ((runsOf l).take k) ++ dig u.toNat))) (g1 : X.grownBy w1 v.ownBlock)
    (hv2 : w2.ownsRow (w.heap.size + 2) 5 1 v2 (runsB ((runsOf l).take k) ++ dig u.toNat ++ dig t).length (u8s (runsB ((runsOf l).take k) ++ dig u.toNat ++ dig t))) (g2 : w1.grownBy w2 v1.ownBlock) (S : Nat) :
    w2.cell? ⟨w.heap.size, 0, none⟩ = some v ∧ w2.frozen? ⟨w.heap.size, 0, none⟩ = false ∧ KeepsFrom S X (w2.setCell ⟨w.heap.size, 0, none⟩ v2) ∧ RunsJ w l v0 (k + 1) (w2.setCell ⟨w.heap.size, 0, none⟩ v2) := by
  have e1 : ∀ j, j < w.heap.size + 2 → w2.heap[j]? = X.heap[j]? := fun j hj => by
    have hs := h.size
    have hs1 := g1.size
    rw [g2.block j (by omega) (fun e => by have := (hv1.lt j e.symm).1; omega), g1.block j (by omega) (fun e => by have := (hv.lt j e.symm).1; omega)]
  have hb2 := (e1 w.heap.size (by omega)).trans hb
  have hx2 := (e1 (w.heap.size + 1) (by omega)).trans h.box
  have hbelow : Below w.heap.size w w2 := (h.below.trans (below_grown g1 h.below.size (fun g e => by have := (hv.lt g e).1; omega))).trans (below_grown g2 (Nat.le_trans h.below.size g1.size) (fun g e => by have := (hv1.lt g e).1; omega))
  have hk2 : (runsOf l).take (k + 1) = (runsOf l).take k ++ [(u, t)] := by
    obtain ⟨hlt, e⟩ := List.getElem?_eq_some_iff.1 hk
    rw [List.take_succ_eq_append_getElem hlt, e]
  refine ⟨by rw [cell_of_row _ _ _ _ _ _ hb2]; rfl, free_of_row hb2 0, ?_, ?_⟩
  · exact (((KeepsOthers.of_grownBy g1 (own_cells hv)).trans (KeepsOthers.of_grownBy g2 (own_cells hv1))).trans (KeepsOthers.setCell _ _ _)).from S
  · refine ⟨⟨v2, ?_, ?_⟩, heap_other hx2 (by omega), hbelow.setCell (p := ⟨w.heap.size, 0, none⟩) (Nat.le_refl _) _, ?_⟩
    · exact heap_set hb2 v2
    · rw [hk2, runsB_snoc]
      refine ownsRow_of_block hv2 (fun g hg => ?_)
      have := (hv2.lt g hg).1
      exact Below.heap_setCell _ _ _ _ (by show g ≠ w.heap.size; omega)
    · have := h.size; have := g1.size; have := g2.size
      have e : (w2.setCell ⟨w.heap.size, 0, none⟩ v2).heap.size = w2.heap.size := by simp [World.setCell]
      omega

set_option maxHeartbeats 400000 in
theorem longest_any (a : Option Addr) (n c : Nat) (W : World) : Calls Try.prog 49 #[.slice a n c] W fun e W' =>
    e = .returned (.func (.func 59) #[] #[.pointer (some ⟨W.heap.size, 0, none⟩)]) ∧ W' = W.alloc (.cells #[.slice a n c] 46) := by
  go_enter Try.func49, Try.ntmps49
  go_wp2
  go_ret
  exact ⟨rfl, rfl⟩

theorem runsE_get {l : List UInt64} {k : Nat} (hk : k < (runsE l).length) : ∃ u t, (runsOf l)[k]? = some (u, t) ∧ (runsE l)[k] = #[Value.int .u64 (u.toNat : Int), Value.int .i64 (t : Int)] := by
  have hk2 : k < (runsOf l).length := by simpa [runsE] using hk
  exact ⟨(runsOf l)[k].1, (runsOf l)[k].2, List.getElem?_eq_getElem hk2, by simp [runsE, runE]⟩

set_option maxHeartbeats 1600000 in
theorem Runs_any {w : World} {v0 : Value} {l : List UInt64} (h : Holds w v0 (u64s l)) (hl : l.length ≤ 1000000) :
    Calls Try.prog 38 #[v0] w fun e w' => ∃ v', e = .returned v' ∧ Hid (w'.ownsRow w.heap.size 5 1 v' (runsB (runsOf l)).length (u8s (runsB (runsOf l))) ∧ Below w.heap.size w w') := by
  have H := Lib.hid h
  obtain ⟨a, c, hv, hc⟩ := h.form
  have HL := Lib.hid hl
  clear h hc hl
  rw [u64s_len] at hv
  subst hv
  generalize hn : l.length = n at *
  have HN := Lib.hid hn
  clear hn
  refine (callsIn_wide (n := 0)).1 ?_
  refine callsIn_of_wp_marks Try.func38 rfl trivial ?_ rfl
  simp only [Try.ntmps38, List.size_toArray, List.length_cons, List.length_nil, Nat.reduceAdd, Nat.reduceSub, Array.replicate_succ, Array.replicate_zero, List.push_toArray, List.append_toArray, List.nil_append, List.cons_append]
  gi_wp2_with fail
  refine ⟨trivial, rfl, (callsIn_wide.2 (longest_any _ _ _ _)).mono ?_⟩
  rintro e w' ⟨rfl, rfl⟩
  gi_wp2_with fail
  have hJ0 : RunsJ w l (.slice a n c) 0 ((w.alloc (Obj.cells #[Value.slice none 0 0] 28)).alloc (Obj.cells #[Value.slice a n c] 46)) := by
    refine ⟨⟨.slice none 0 0, ?_, World.ownsRow_nil _ _ _ _⟩, ?_, ((Below.refl _ _).alloc (Nat.le_refl _) _).alloc (by simp) _, by simp⟩
    · exact (Below.heap_alloc _ _ _ (by simp)).trans (alloc1 _ _)
    · have := alloc1 (w.alloc (Obj.cells #[Value.slice none 0 0] 28)) (Obj.cells #[Value.slice a n c] 46)
      simpa using this
  have hps : ((w.alloc (Obj.cells #[Value.slice none 0 0] 28)).alloc (Obj.cells #[Value.slice a n c] 46)).heap.size = w.heap.size + 2 := by simp
  generalize (w.alloc (Obj.cells #[Value.slice none 0 0] 28)).alloc (Obj.cells #[Value.slice a n c] 46) = W3 at *
  have HP := Lib.hid hps
  have HJ := Lib.hid hJ0
  clear hJ0
  refine range_law (gf := 59) (lb := #[Value.pointer (some { block := w.heap.size + 1, off := 0 })]) rfl (enters_of Try.func59 (by kernel_rfl) rfl)
    (encs := runsE l) (fun x hx => by obtain ⟨p, _, rfl⟩ := List.mem_map.1 hx; rfl) (longest_seq (w.heap.size + 1) l (by rw [HN.out]; exact HL.out))
    (RunsJ w l (.slice a n c)) (RunsJ.own (by omega)) (fun k X h => ⟨_, by rw [cell_of_row _ _ _ _ _ _ h.box]; rfl, H.out.below h.below⟩) HJ.out
    (fun s X => RunsJ w l (.slice a n c) s.1 X ∧ ∃ u t, (runsOf l)[s.1]? = some (u, t) ∧
      s.2 = { tmps := #[Value.slice a n c, undef, Value.slice none 0 0, Value.pointer (some { block := w.heap.size, off := 0 }),
          Value.int .u64 (UInt64.toNat u : Int), Value.int .i64 (t : Nat), Value.slice a n c,
          Value.func (Fn.func 59) #[] #[Value.pointer (some { block := w.heap.size + 1, off := 0 })], Value.int .u64 (UInt64.toNat u : Int), Value.int .i64 (t : Nat),
          undef, undef, undef, undef, undef, undef, undef], defers := [] }) ?hM ?assign ?body ?done
  case hM =>
    intro s X Y row h hg hr
    exact ⟨RunsJ.own (by omega) s.1 X Y row h.1 hg hr, h.2⟩
  case assign =>
    intro l' q hq X K h hK
    obtain ⟨u, t, hget, e⟩ := runsE_get hq
    rw [e]
    have HK := Lib.hid hK
    have HG := Lib.hid hget
    have HP2 := Lib.hid h
    clear hK e hget h
    simp only [List.zip_toArray, List.zip_cons_cons, List.zip_nil_right, List.foldl_toArray, List.foldl_cons, List.foldl_nil, List.setIfInBounds_toArray, List.set_cons_succ, List.set_cons_zero]
    gi_wp2
    exact HK.out _ _ (KeepsFrom.refl _ _) ⟨HP2.out, u, t, HG.out, rfl⟩
  case body =>
    rintro l' q hq a₁ X ⟨h, u, t, hget, rfl⟩
    obtain ⟨v, hb, hrow⟩ := h.row
    have hcell : X.cell? ⟨w.heap.size, 0, none⟩ = some v := by rw [cell_of_row _ _ _ _ _ _ hb]; rfl
    have ht : t < 18446744073709551616 := by
      have := ((runs_le l).2 _ (List.mem_of_getElem? hget)).2
      have := HL.out; have := HN.out; simp at *; omega
    have hlen : (runsB ((runsOf l).take q)).length ≤ 20000000 := by
      have h1 := runsB_len ((runsOf l).take q) (fun p hp => by
        have := ((runs_le l).2 _ (List.mem_of_mem_take hp)).2
        have := HL.out; have := HN.out; omega)
      have h2 := (runs_le l).1
      have h3 : ((runsOf l).take q).length ≤ (runsOf l).length := by simp; omega
      have := HL.out; have := HN.out
      omega
    obtain ⟨va, vc, hvf, _⟩ := ownsRow_form hrow
    have hu := u.toNat_lt
    have hd := dig_len10 hu
    have HH := Lib.hid h
    have HB := Lib.hid hb
    have HR := Lib.hid hrow
    have HG := Lib.hid hget
    have HV := Lib.hid hvf
    have hl2 : Hid ((runsB ((runsOf l).take q) ++ dig u.toNat).length ≤ 17592186044000) := Lib.hid (by simp; omega)
    clear h hb hrow hget hvf hd
    gi_wp2_with fail
    refine ⟨trivial, rfl, (CallsIn.inRound l' (callsIn_wide.2 (put_any HR.out HH.out.size u.toNat hu (by omega)))).mono ?_⟩
    rintro e w1 ⟨v1, rfl, o1, g1, b1⟩
    have O1 := Lib.hid o1
    have G1 := Lib.hid g1
    clear o1 g1 b1
    have t2 : IntKind.u64.wrap (t : Int) = (t : Int) := IntWalk.u64_in _ (by omega)
    gi_wp2_with fail
    refine ⟨trivial, rfl, (CallsIn.inRound l' (callsIn_wide.2 (put_any O1.out (Nat.le_trans HH.out.size G1.out.size) t ht hl2.out))).mono ?_⟩
    rintro e w2 ⟨v2, rfl, o2, g2, b2⟩
    obtain ⟨r1, r2, r3, r4⟩ := HH.out.step HG.out HB.out HR.out O1.out G1.out o2 g2 W3.heap.size
    have R := Lib.hid (And.intro r3 r4)
    obtain ⟨va2, vc2, hvf2, _⟩ := ownsRow_form o2
    generalize (runsB ((runsOf l).take q) ++ dig u.toNat ++ dig t).length = L at hvf2
    subst hvf2
    rw [HV.out] at r1
    clear o2 g2 b2 r3 r4
    gi_wp2_with fail
    exact R.out
  case done =>
    intro X h hD
    obtain ⟨v, hb, hrow⟩ := h.row
    have hcell : X.cell? ⟨w.heap.size, 0, none⟩ = some v := by rw [cell_of_row _ _ _ _ _ _ hb]; rfl
    have HX := Lib.hid (And.intro h hD)
    have HB := Lib.hid hb
    have HR := Lib.hid hrow
    clear h hD hb hrow
    gi_wp2_with fail
    refine leave_marks (v := v) (B := w.heap.size) (fun w' => by simp [results, Try.results38, go_sem]) _ X ⟨_, rfl, by have := HP.out; omega, HX.out.2, (fun _ h => nomatch h), trivial⟩ (fun W' hs => ?_)
    have hr := HR.out
    rw [List.take_of_length_le (by simp [runsE])] at hr
    refine ⟨_, rfl, ?_, HX.out.1.below.trans hs.below⟩
    refine ownsRow_of_block (ownsRow_rebase hr (fun g hg => by have := (hr.lt g hg).1; omega)) (fun g hg => hs.block g (.inr (fun e => ?_)))
    have := own_cells hr g _ hg e
    cases this
end Go.Proofs.Ytbijpjoljljlpaa
