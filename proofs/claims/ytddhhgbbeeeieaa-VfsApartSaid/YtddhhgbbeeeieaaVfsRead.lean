/- Contracts of vfs.Disk.Read, Cut, Start, On, Ops, Pending. Conditions: a disk that was made. -/
import Derived.Test.YtddhhgbbeeeieaaVfsWrite
set_option maxRecDepth 100000
namespace Go.Proofs.Ytddhhgbbeeeieaa
open Go.RowKit Go.Maps Go.Sort

theorem wpList_append_run {P : Program} {w w' : World} {ops : Array Oper} {rest : List Oper} {o : Oper} {a : Act} {Q : Exit → Act → World → Prop} {sv xv v' : Value} (hgd : o.guard = none) (s x : Operand) (t : TypeId)
    (hop : o.op = .call { callee := .builtin .append, args := #[s, x], argTypes := #[t, t] }) (hs : a.eval s = sv) (hx : a.eval x = xv) (hrun : (Builtin.append_ #[t, t] o.type #[sv, xv]).run P w = .ok v' w')
    (hK : wpList P ops Q rest (a.put o.dst v') w') : wpList P ops Q (o :: rest) a w := by
  refine wpList_plain hgd fun K hKK => ?_
  unfold Oper.wp
  simp [execOp, hop, resolve, invoke, builtin, hs, hx, hrun, Result.andThen]
  exact hKK _ _ hK

theorem holds8_of_row {w : World} {base : Nat} {v : Value} {l : List UInt8} (h : w.ownsRow base 5 1 v l.length (u8s l)) : Holds8 w v l := by
  rcases h.2 with ⟨rfl, h2⟩ | ⟨g, cap, cur, rfl, hb, hg, h2, h3, h4, h5⟩
  · have : l = [] := List.eq_nil_of_length_eq_zero h2
    subst this
    exact ⟨none, 0, rfl, Nat.le_refl _, .inl ⟨rfl, rfl, rfl⟩⟩
  · exact ⟨some ⟨g, 0, none⟩, cap, rfl, h2, .inr ⟨_, rfl, h.cells rfl⟩⟩
theorem ownsRow_rebase {w : World} {B : Nat} {e : TypeId} {v : Value} {n : Nat} {xs : List Value} (h : w.ownsRow 0 e 1 v n xs) (hb : ∀ g, v.ownBlock = some g → B ≤ g) : w.ownsRow B e 1 v n xs := by
  refine ⟨h.1, ?_⟩
  rcases h.2 with h2 | ⟨g, cap, cur, rfl, _, r⟩
  · exact .inl h2
  · exact .inr ⟨g, cap, cur, rfl, hb g rfl, r⟩

/-- what Read answers -/
def ReadP (w : World) (D : DV) (k : List UInt8) (r : Ending) (w' : World) : Prop :=
  ∃ v l, r = .returned (.tuple #[v, .int .i64 (findE D.files D.on k)]) ∧ Below w.heap.size w w' ∧ w'.ownsRow w.heap.size 5 1 v l.length (u8s l) ∧
    ((findE D.files D.on k ≠ 0 ∧ l = [] ∧ v = .slice none 0 0) ∨ (findE D.files D.on k = 0 ∧ ∃ f, fileOf D.files k = some f ∧ l = f.bytes))

set_option maxHeartbeats 800000 in
theorem Read_any {w : World} {p : Nat} {T : Nat → Option (Nat × Nat)} {D : DV} (h : DiskAt w p T D) (s : ByteArray) (hs : s.size ≤ maxLen) :
    Calls Try.prog 21 #[.pointer (some ⟨p, 0, none⟩), .string s] w (ReadP w D s.data.toList) := by
  have H := Lib.hid h
  have HS := Lib.hid hs
  clear h hs
  go_enter Try.func21, Try.ntmps21
  go_wp2_with fail
  refine (find_any H.out s HS.out).mono ?_
  rintro e w1 ⟨rfl, hb⟩
  have H1 := Lib.hid (H.out.below hb)
  have HB := Lib.hid hb
  clear hb
  generalize hv : ptrV (findV D.files D.on s.data.toList) = v0
  obtain ⟨v, hv2⟩ : ∃ v, v = ptrA (findV D.files D.on s.data.toList) := ⟨_, rfl⟩
  obtain rfl : v0 = .pointer v := by rw [hv2]; exact hv.symm
  clear hv
  generalize he : findE D.files D.on s.data.toList = r
  have HV := Lib.hid hv2
  have HE := Lib.hid he
  clear hv2 he
  by_cases hr : r = 0
  · subst hr
    obtain ⟨f, hf1, hf2, hf3⟩ := find_zero HE.out
    have hv := HV.out
    rw [hf2] at hv
    have hmem := fileOf_mem hf1
    have hF := H1.out.files _ f hmem
    obtain ⟨d0, _⟩ := hF.cell
    obtain ⟨sa, scap, hsl, _, _⟩ := ownsRow_form hF.row
    have happ := app8 w1 (World.ownsRow_nil w1 0 5 1) (xs := []) (holds8_of_row hF.row) (by have := hF.max; simp; omega)
    rw [hsl] at d0 happ
    have HF1 := Lib.hid hf1
    obtain ⟨v', w2, hrun, hown, hgr, hblk⟩ := happ
    have HRUN := Lib.hid hrun
    have HOWN := Lib.hid hown
    have HGR := Lib.hid hgr
    have HBLK := Lib.hid hblk
    obtain rfl : v = some ⟨f.blk, 0, none⟩ := hv
    clear hF hsl hmem hf1 hf2 hf3 hrun hown hgr hblk
    go_wp2_with (at_builtin; refine wpList_append_run rfl _ _ 30 rfl rfl rfl (HRUN.out _) ?_)
    go_ret2
    refine ⟨v', f.bytes, by rw [HE.out]; rfl, HB.out.trans ⟨HGR.out.os, HGR.out.tape, HGR.out.output, HGR.out.size, fun k hk => HGR.out.block k (Nat.lt_of_lt_of_le hk HB.out.size) (by simp [Value.ownBlock])⟩, ?_, .inr ⟨HE.out, f, HF1.out, rfl⟩⟩
    refine ownsRow_rebase HOWN.out (fun g hg => ?_)
    have hs1 := HB.out.size
    rcases HBLK.out with e | e
    · rw [e] at hg; simp [Value.ownBlock] at hg
    · rw [e] at hg
      simp only [Option.some.injEq] at hg
      omega
  · go_wp2
    go_ret2
    exact ⟨_, [], by rw [HE.out]; rfl, HB.out, World.ownsRow_nil _ _ _ _, .inl ⟨by rw [HE.out]; exact hr, rfl, rfl⟩⟩

/-- a slice of ints that came in: what it holds -/
def Holds64 (w : World) (v : Value) (l : List Int) : Prop :=
  ∃ a c, v = .slice a l.length c ∧ l.length ≤ c ∧ ((a = none ∧ l = [] ∧ c = 0) ∨ ∃ ad, a = some ad ∧ ∀ j u, (i64s l)[j]? = some u → w.cell? (ad.add j) = some u)

theorem app64 (w : World) {sv : Value} {l : List Int} (hs : Holds64 w sv l) (hlen : l.length ≤ 17592186044416) :
    ∃ v' w', (∀ ty, (Builtin.append_ #[27, 27] ty #[.slice none 0 0, sv]).run Try.prog w = .ok v' w') ∧ w'.ownsRow 0 3 1 v' l.length (i64s l) ∧ w.grownBy w' none ∧ (v'.ownBlock = none ∨ v'.ownBlock = some w.heap.size) := by
  obtain ⟨i, hi, hz0, hz1, hz2⟩ := info_parts info3
  obtain ⟨a, c, rfl, hc, hcase⟩ := hs
  rcases hcase with ⟨rfl, rfl, rfl⟩ | ⟨ad, rfl, hcell⟩
  · exact ⟨_, w, fun ty => append_nilsrc w _ ty _ i Try.underlying27 hi none 0 0 0 (Nat.le_refl _), World.ownsRow_nil _ _ _ _, ⟨rfl, rfl, rfl, Nat.le_refl _, fun _ _ _ => rfl⟩, .inl rfl⟩
  · obtain ⟨v', w', hr, h2, h3, h4⟩ := append_own (P := Try.prog) w 27 0 3 i (.int .i64 0) Try.underlying27 hi hz0 hz1 (by rw [hz2]; omega) rfl (.slice none 0 0) 0 [] (World.ownsRow_nil _ _ _ _) ad l.length c (i64s l) (by simp [i64s]) hcell (i64s_one l) (by omega)
    refine ⟨v', w', fun ty => hr, by simpa using h2, h3, h4⟩

theorem cut_fin {w w1 w2 : World} {p : Nat} {T : Nat → Option (Nat × Nat)} {D : DV} (h : DiskAt w p T D) {v' : Value} {l : List Int} (hown : w1.ownsRow 0 3 1 v' l.length (i64s l)) (hgr : w.grownBy w1 none) (hblk : v'.ownBlock = none ∨ v'.ownBlock = some w.heap.size) {n : Int}
    (hw : (w1.setCell ⟨p, 3, none⟩ (.int .i64 n)).setCell ⟨p, 4, none⟩ v' = w2) : After w p T w2 { D with left := n, ks := v', keep := l } := by
  subst hw
  have hp : p < w.heap.size := h.bound p (by rw [h.tp]; simp)
  have h1 : DiskAt w1 p T D := h.move (fun k hk => hgr.block k (h.bound k hk) (by simp)) hgr.size
  have e1 := heap_setCell_same (j := 3) h1.disk (.int .i64 n)
  have e2 := heap_setCell_same (j := 4) e1 v'
  have hin : In T p := by unfold In; rw [h.tp]; simp
  have ho : ∀ x, x ≠ p → ((w1.setCell ⟨p, 3, none⟩ (.int .i64 n)).setCell ⟨p, 4, none⟩ v').heap[x]? = w1.heap[x]? := fun x hx => by rw [Below.heap_setCell _ _ _ _ hx, Below.heap_setCell _ _ _ _ hx]
  have hsz : ((w1.setCell ⟨p, 3, none⟩ (.int .i64 n)).setCell ⟨p, 4, none⟩ v').heap.size = w1.heap.size := by simp [World.setCell]
  have hkept : Kept (In T) w ((w1.setCell ⟨p, 3, none⟩ (.int .i64 n)).setCell ⟨p, 4, none⟩ v') :=
    (((Kept.of_grown hgr).mono (fun x hx => by cases hx)).setCell (p := ⟨p, 3, none⟩) (.inl hin) _).setCell (p := ⟨p, 4, none⟩) (.inl hin) _
  have hgs := hgr.size
  rcases hblk with hb | hb
  · exact ⟨T, h1.setOwn (T' := T) (on := D.on) (ops := D.ops) (left := n) (ks := v') (keep := l) e2 (ownsRow_of_block hown (fun g hg => by rw [hb] at hg; cases hg)) (fun _ _ => rfl) (fun b hb2 => by rw [hb] at hb2; cases hb2) (fun x hx => by have := h.bound x hx; omega) (fun x _ hx _ => ho x hx), hkept, fun _ hx => .inl hx⟩
  · have hlt2 : w.heap.size < w1.heap.size := by
      rcases hown.2 with ⟨e, _⟩ | ⟨g, cap, cur, e, _, hg, _⟩
      · rw [e] at hb; simp [Value.ownBlock] at hb
      · rw [e] at hb
        simp only [Value.ownBlock, Option.some.injEq] at hb
        have := (Array.getElem?_eq_some_iff.1 hg).1
        omega
    refine ⟨updT T w.heap.size (4, 0), h1.setOwn (T' := updT T w.heap.size (4, 0)) (on := D.on) (ops := D.ops) (left := n) (ks := v') (keep := l) e2 (ownsRow_of_block hown (fun g hg => ho g (fun e => ?_))) (updT_old h (Nat.le_refl _) _) (fun b hb2 => ?_) (fun x hx => ?_) (fun x _ hx _ => ho x hx), hkept, fun x hx => ?_⟩
    · rw [hb] at hg
      simp only [Option.some.injEq] at hg
      omega
    · rw [hb] at hb2
      simp only [Option.some.injEq] at hb2
      rw [← hb2]; exact updT_new _ _ _
    · rcases updT_cases hx with e | e
      · omega
      · have := h.bound x e; omega
    · rcases updT_cases hx with e | e
      · exact .inr (by omega)
      · exact .inl e

/-- what Cut does -/
def CutP (D : DV) (n : Int) (l : List Int) (e : Int) (D2 : DV) : Prop :=
  (D.on = false ∧ e = 9 ∧ D2 = D) ∨ (D.on = true ∧ n < 0 ∧ e = 2 ∧ D2 = D) ∨ (D.on = true ∧ 0 ≤ n ∧ e = 0 ∧ ∃ ks, D2 = { D with left := n, ks := ks, keep := l })

set_option maxHeartbeats 800000 in
theorem Cut_any {w : World} {p : Nat} {T : Nat → Option (Nat × Nat)} {D : DV} (h : DiskAt w p T D) (n : Int) {kv : Value} {l : List Int} (hk : Holds64 w kv l) (hlen : l.length ≤ 17592186044416) :
    Calls Try.prog 18 #[.pointer (some ⟨p, 0, none⟩), .int .i64 n, kv] w (Does w p T (CutP D n l)) := by
  have H := Lib.hid h
  obtain ⟨c0, c1, c2, c3, c4⟩ := h.cell
  have f3 := h.free 3
  have f4 := h.free 4
  obtain ⟨ka, kc, hkv, _, _⟩ := id hk
  have happ := app64 w hk hlen
  obtain ⟨v', w1, hrun, hown, hgr, hblk⟩ := happ
  have hp : p < w.heap.size := h.bound p (by rw [h.tp]; simp)
  have d3 : w1.cell? ⟨p, 3, none⟩ = some (.int .i64 D.left) := cell_grown hgr (by simp) c3
  have d4 : w1.cell? ⟨p, 4, none⟩ = some D.ks := cell_grown hgr (by simp) c4
  have hh : w1.heap[p]? = w.heap[p]? := hgr.block p hp (by simp)
  have g3 : w1.frozen? ⟨p, 3, none⟩ = false := free_of_row (hh.trans h.disk) 3
  have g4 : w1.frozen? ⟨p, 4, none⟩ = false := free_of_row (hh.trans h.disk) 4
  obtain ⟨va, vc, hv', _, _⟩ := ownsRow_form hown
  have HFIN := Lib.hid (fun w2 (hw : (w1.setCell ⟨p, 3, none⟩ (.int .i64 n)).setCell ⟨p, 4, none⟩ v' = w2) => cut_fin h hown hgr hblk hw)
  have HRUN := Lib.hid hrun
  rw [hkv] at HRUN
  rw [hv'] at HRUN HFIN
  subst hkv
  clear h hk hrun hown hgr hblk hv' hh c0 c1 c2 c3 c4 f3 f4 hlen hp
  go_enter Try.func18, Try.ntmps18
  go_wp2_with fail
  refine (ready_none H.out).mono ?_
  rintro e w' ⟨rfl, hw⟩
  subst hw
  cases hon : D.on with
  | false =>
    have HON := Lib.hid hon
    clear hon
    go_wp2
    go_ret
    exact ⟨_, D, rfl, .inl ⟨HON.out, rfl, rfl⟩, After.refl H.out⟩
  | true =>
    have HON := Lib.hid hon
    clear hon
    by_cases hn : n < 0
    · go_wp2
      go_ret
      exact ⟨_, D, rfl, .inr (.inl ⟨HON.out, hn, rfl, rfl⟩), After.refl H.out⟩
    · go_wp2_with (at_builtin; refine wpList_append_run rfl _ _ 27 rfl rfl rfl (HRUN.out _) ?_)
      go_ret
      exact ⟨_, _, rfl, .inr (.inr ⟨HON.out, by omega, rfl, _, rfl⟩), HFIN.out _ rfl⟩

set_option maxHeartbeats 400000 in
theorem Start_any {w : World} {p : Nat} {T : Nat → Option (Nat × Nat)} {D : DV} (h : DiskAt w p T D) :
    Calls Try.prog 20 #[.pointer (some ⟨p, 0, none⟩)] w fun r w' => r = .returned (.tuple #[]) ∧ After w p T w' { D with on := true } := by
  have H := Lib.hid h
  obtain ⟨c0, c1, c2, c3, c4⟩ := h.cell
  have f1 := h.free 1
  have e1 := heap_setCell_same (j := 1) h.disk (.bool true)
  have HA := Lib.hid (show After w p T (w.setCell ⟨p, 1, none⟩ (.bool true)) { D with on := true } from
    ⟨T, h.setOwn (T' := T) (on := true) (ops := D.ops) (left := D.left) (ks := D.ks) (keep := D.keep) e1 (ownsRow_setCell_other h.keep (fun e => by have a1 := h.tk p e; rw [h.tp] at a1; simp at a1) _) (fun _ _ => rfl) h.tk (fun k hk => by simpa [World.setCell] using h.bound k hk) (fun k _ hkp _ => Below.heap_setCell _ _ _ _ hkp),
      (Kept.refl (In T) w).setCell (p := ⟨p, 1, none⟩) (.inl (by unfold In; rw [h.tp]; simp)) _, fun _ hk => .inl hk⟩)
  clear h e1 c0 c2 c3 c4
  go_enter Try.func20, Try.ntmps20
  go_wp2_with (go_at_call 50; refine (made_any H.out).mono ?_; rintro e w' ⟨rfl, rfl⟩)
  go_end0
  exact ⟨rfl, HA.out⟩

set_option maxHeartbeats 400000 in
theorem On_any {w : World} {p : Nat} {T : Nat → Option (Nat × Nat)} {D : DV} (h : DiskAt w p T D) :
    Calls Try.prog 19 #[.pointer (some ⟨p, 0, none⟩)] w fun r w' => r = .returned (.bool D.on) ∧ w = w' := by
  have H := Lib.hid h
  obtain ⟨c0, c1, c2, c3, c4⟩ := h.cell
  clear h c0 c2 c3 c4
  go_enter Try.func19, Try.ntmps19
  go_wp2_with (go_at_call 50; refine (made_any H.out).mono ?_; rintro e w' ⟨rfl, rfl⟩)
  go_ret
  exact ⟨rfl, rfl⟩

set_option maxHeartbeats 400000 in
theorem Ops_any {w : World} {p : Nat} {T : Nat → Option (Nat × Nat)} {D : DV} (h : DiskAt w p T D) :
    Calls Try.prog 28 #[.pointer (some ⟨p, 0, none⟩)] w fun r w' => r = .returned (.int .i64 D.ops) ∧ w = w' := by
  have H := Lib.hid h
  obtain ⟨c0, c1, c2, c3, c4⟩ := h.cell
  clear h c0 c1 c3 c4
  go_enter Try.func28, Try.ntmps28
  go_wp2_with (go_at_call 50; refine (made_any H.out).mono ?_; rintro e w' ⟨rfl, rfl⟩)
  go_ret
  exact ⟨rfl, rfl⟩

set_option maxHeartbeats 800000 in
theorem Pending_any {w : World} {p : Nat} {T : Nat → Option (Nat × Nat)} {D : DV} (h : DiskAt w p T D) (s : ByteArray) (hs : s.size ≤ maxLen) :
    Calls Try.prog 25 #[.pointer (some ⟨p, 0, none⟩), .string s] w fun r w' => ∃ n : Int, r = .returned (.tuple #[.int .i64 n, .int .i64 (findE D.files D.on s.data.toList)]) ∧ Below w.heap.size w w' ∧
      ((findE D.files D.on s.data.toList ≠ 0 ∧ n = 0) ∨ (findE D.files D.on s.data.toList = 0 ∧ ∃ f, fileOf D.files s.data.toList = some f ∧ n = (f.bytes.length : Int) - f.synced)) := by
  have H := Lib.hid h
  have HS := Lib.hid hs
  clear h hs
  go_enter Try.func25, Try.ntmps25
  go_wp2_with fail
  refine (find_any H.out s HS.out).mono ?_
  rintro e w1 ⟨rfl, hb⟩
  have H1 := Lib.hid (H.out.below hb)
  have HB := Lib.hid hb
  clear hb
  generalize hv : ptrV (findV D.files D.on s.data.toList) = v0
  obtain ⟨v, hv2⟩ : ∃ v, v = ptrA (findV D.files D.on s.data.toList) := ⟨_, rfl⟩
  obtain rfl : v0 = .pointer v := by rw [hv2]; exact hv.symm
  clear hv
  generalize he : findE D.files D.on s.data.toList = r
  have HV := Lib.hid hv2
  have HE := Lib.hid he
  clear hv2 he
  by_cases hr : r = 0
  · subst hr
    obtain ⟨f, hf1, hf2, hf3⟩ := find_zero HE.out
    have hv := HV.out
    rw [hf2] at hv
    have HF1 := Lib.hid hf1
    have HF := Lib.hid (H1.out.files _ f (fileOf_mem hf1))
    obtain rfl : v = some ⟨f.blk, 0, none⟩ := hv
    clear hf1 hf2 hf3
    go_wp2_with fail
    refine (pending_any HF.out).mono ?_
    rintro e w2 ⟨rfl, n, rfl⟩
    go_wp2
    go_ret2
    exact ⟨_, by rw [HE.out]; rfl, HB.out.trans ⟨rfl, rfl, rfl, Nat.le_refl _, fun _ _ => rfl⟩, .inr ⟨HE.out, f, HF1.out, rfl⟩⟩
  · go_wp2
    go_ret2
    exact ⟨_, by rw [HE.out]; rfl, HB.out, .inl ⟨by rw [HE.out]; exact hr, rfl⟩⟩
end Go.Proofs.Ytddhhgbbeeeieaa
