/- Contract of vfs.Disk.Rename and of what it does. Conditions: a disk that was made. -/
import Derived.Test.YtddhhgbbeeeieaaVfsRead
set_option maxRecDepth 100000
namespace Go.Proofs.Ytddhhgbbeeeieaa
open Go.RowKit Go.Maps Go.Sort

/-- a deletion from a map as one step of a region that draws, its run being known -/
theorem step_delete_run {P : Program} {ops : Array Oper} {o : Oper} {a : Act} {w w' : World} {K : Act → World → Prop} {Q : Exit → Act → World → Prop} {E : Prop} {mv kv v' : Value}
    (hg : o.guard = none) (m x : Operand) (t k : TypeId) (hop : o.op = Op.call { callee := Callee.builtin Builtin.delete, args := #[m, x], argTypes := #[t, k] }) (hm : a.eval m = mv) (hx : a.eval x = kv)
    (hrun : (Builtin.delete_ #[t, k] o.type #[mv, kv]).run P w = .ok v' w') (hK : K (a.put o.dst v') w') :
    if Region.wanted o (yielded ops a.tmps) = true then Oper.wp P o a w K Q else E := by
  have hw : Region.wanted o (yielded ops a.tmps) = true := by simp [Region.wanted, hg]
  rw [if_pos hw]
  unfold Oper.wp
  simp [execOp, hop, resolve, invoke, builtin, hm, hx, hrun, Result.andThen]
  exact hK

theorem cf51 (w : World) (args : Array Value) : (callFunc 51 args).run Try.prog w = .ok (.enter 51 args) w := by kernel_rfl

theorem blk_apart {w : World} {p : Nat} {T : Nat → Option (Nat × Nat)} {D : DV} (h : DiskAt w p T D) {k k' : List UInt8} {f g : FileC} (hf : (k, f) ∈ D.files) (hg : (k', g) ∈ D.files) (hk : k' ≠ k) : g.blk ≠ f.blk := by
  obtain ⟨i, hi⟩ := List.mem_iff_getElem?.1 hf
  obtain ⟨j, hj⟩ := List.mem_iff_getElem?.1 hg
  exact pairwise_at (R := fun a b : List UInt8 × FileC => a.2.blk ≠ b.2.blk) (fun a b hab e => hab e.symm) h.blks (fun e => by subst e; rw [hi] at hj; cases hj; exact hk rfl) hj hi

theorem dropL_short {L : List (List UInt8 × FileC)} {k : List UInt8} {f : FileC} (h : (k, f) ∈ L) : (dropL k L).length < L.length := by
  unfold dropL
  rw [List.length_filter_lt_length_iff_exists]
  exact ⟨(k, f), h, by simp⟩

/-- behind delete, and behind put -/
theorem rename_fin {w w1 w2 w3 : World} {p n : Nat} {T : Nat → Option (Nat × Nat)} {D : DV} (h : DiskAt w p T D) {from' to : List UInt8} {f : FileC} (hf : fileOf D.files from' = some f) (hg : goodL to = true) (h1 : DiskAt w1 p T { D with files := dropL from' D.files }) (k1 : Kept (In T) w w1)
    (hw2 : w1 = w2) (hm : w3.ownsMap Try.prog 9 ptrR D.mb n ((mapD (dropL from' D.files)).put (.string to) (.lit (.int .u64 (f.blk : Int))))) (hk : Kept (fun x => x = D.mb) w2 w3) (hF : f.At w1) :
    After w p T w3 { D with files := putL to f (dropL from' D.files) } := by
  subst hw2
  have hmem := fileOf_mem hf
  have same : ∀ x, x < w1.heap.size → x ≠ D.mb → w3.heap[x]? = w1.heap[x]? := fun x hx hne => hk.block x hx hne
  have hne : ∀ x y, T x = some y → y ≠ (1, 0) → x ≠ D.mb := fun x y hx hy e => by rw [e, h.tm] at hx; simp at hx; exact hy hx.symm
  refine ⟨T, ?_, k1.trans hk (fun x hx => .inl (by subst hx; unfold In; rw [h.tm]; simp)), fun _ hx => .inl hx⟩
  refine h1.putFile (k := to) (f := f) (T' := T) hm ⟨?_, ownsRow_of_block hF.row (fun g hg' => ?_), hF.sync, hF.max⟩ hg ?_ (fun _ _ => rfl) (h.tf _ _ hmem) (fun b hb => h.ts _ _ b hmem hb) (fun x hx => Nat.lt_of_lt_of_le (h1.bound x hx) hk.size) ?_ (fun x hx hxm => same x (h1.bound x hx) hxm)
  · rw [same f.blk (h1.bound _ (by rw [h.tf _ _ hmem]; simp)) (hne _ _ (h.tf _ _ hmem) (by simp))]; exact hF.blk
  · have := h.ts _ _ g hmem hg'
    exact same g (h1.bound _ (by rw [this]; simp)) (hne _ _ this (by simp))
  · right
    have := dropL_short hmem
    have := h.room
    show (dropL from' D.files).length < 64
    omega
  · intro k' g hg' _
    obtain ⟨a1, a2⟩ := mem_dropL.1 hg'
    exact blk_apart h hmem a1 a2

set_option maxHeartbeats 1600000 in
theorem rename_do {w : World} {p bd bf bt : Nat} {T : Nat → Option (Nat × Nat)} {D : DV} (h : DiskAt w p T D) {s t : ByteArray} {f : FileC} (cd : w.cell? ⟨bd, 0, none⟩ = some (.pointer (some ⟨p, 0, none⟩))) (cf : w.cell? ⟨bf, 0, none⟩ = some (.string s)) (ct : w.cell? ⟨bt, 0, none⟩ = some (.string t))
    (td : T bd = none) (tt : T bt = none) (hs : s.size ≤ maxLen) (hg : goodL t.data.toList = true) (hf : fileOf D.files s.data.toList = some f) :
    DoesTo p 51 #[.pointer (some ⟨bd, 0, none⟩), .pointer (some ⟨bf, 0, none⟩), .pointer (some ⟨bt, 0, none⟩)] T (fun D2 => D2 = { D with files := putL t.data.toList f (dropL s.data.toList D.files) }) w := by
  unfold DoesTo
  have H := Lib.hid h
  obtain ⟨c0, _, _, _, _⟩ := h.cell
  have hlk : ∀ n, (Instr.lookup 50 (.map (some D.mb)) (.string s) false).run Try.prog (w.drewN n) = .ok (.pointer (some ⟨f.blk, 0, none⟩)) (w.drewN n) := fun n => by have := h.look hs n; rw [hf] at this; exact this
  have HLK := Lib.hid hlk
  have HS := Lib.hid hs
  have HG := Lib.hid hg
  have HF := Lib.hid hf
  have hlt := goodL_len hg
  rw [sz] at hlt
  have HLT := Lib.hid hlt
  clear h hs hg hf hlt
  go_enter Try.func51, Try.ntmps51
  go_wp2_with fail
  go_quiet (fail)
  clear hlk
  go_wp2_with fail
  have hmp : ((w.drewN nq).drew).ownsMap Try.prog 9 ptrR D.mb D.files.length (mapD D.files) := H.out.map
  obtain ⟨w2, hrun, hm2, ht2⟩ := hmp.drop (string_keyed Try.underlying9) Try.underlying50 (key := .string s) (WideMaps.keyOf_string_mk (P := Try.prog) Try.underlying9 HS.out) 0
  have hgr := ht2.grown
  have hgr' : w.grownBy w2 (some D.mb) := ⟨hgr.os, hgr.tape, hgr.output, hgr.size, hgr.block⟩
  have hpm : p ≠ D.mb := fun e => by have a1 := H.out.tp; rw [e, H.out.tm] at a1; simp at a1
  have nm : ∀ x, T x = none → some D.mb ≠ some x := fun x hx e => by cases e; rw [H.out.tm] at hx; cases hx
  have h2 : DiskAt w2 p T { D with files := dropL s.data.toList D.files } := H.out.dropFile hm2 hgr'.size (fun x hx hne => hgr'.block x (H.out.bound x hx) (by simpa using hne))
  have hmem := fileOf_mem HF.out
  have hF0 := H.out.files _ _ hmem
  have hF2 : f.At w2 := by
    have hlt := H.out.bound
    refine ⟨?_, ownsRow_of_block hF0.row (fun g hg => ?_), hF0.sync, hF0.max⟩
    · rw [hgr'.block f.blk (hlt _ (by rw [H.out.tf _ _ hmem]; simp)) (by intro e; simp only [Option.some.injEq] at e; have a1 := H.out.tf _ _ hmem; rw [e, H.out.tm] at a1; simp at a1)]; exact hF0.blk
    · have a2 := H.out.ts _ _ g hmem hg
      exact hgr'.block g (hlt _ (by rw [a2]; simp)) (by intro e; simp only [Option.some.injEq] at e; rw [e, H.out.tm] at a2; simp at a2)
  have e1 : w2.cell? ⟨bd, 0, none⟩ = some (.pointer (some ⟨p, 0, none⟩)) := cell_grown hgr' (nm bd td) cd
  have e2 : w2.cell? ⟨bt, 0, none⟩ = some (.string t) := cell_grown hgr' (nm bt tt) ct
  have H2 := Lib.hid h2
  have HF2 := Lib.hid hF2
  have HM2 := Lib.hid hm2
  have HRUN := Lib.hid hrun
  have K2 := Lib.hid ((Kept.of_grown hgr').mono (S' := In T) (fun x hx => by cases hx; unfold In; rw [H.out.tm]; simp))
  clear hmp hrun hm2 ht2 hgr hgr' h2 hmem hF0 hF2 nm
  go_region_law (refine step_delete_run rfl (.tmp 13) (.tmp 14) 50 9 rfl rfl rfl HRUN.out ?_)
  all_goals
    clear cd cf ct c0
    go_wp2_with fail
    refine (put_any (n := D.files.length) (mb := D.mb) (M := (mapD D.files).del (.string s.data.toList)) ?_ HM2.out ?_ t ?_).mono ?_
    · exact H2.out.cell.1
    · have := H.out.room; omega
    · have := HLT.out; omega
    rintro e w3 ⟨rfl, hm3, hk3⟩
    rw [mapD_del] at hm3
    have HFIN := Lib.hid (rename_fin H.out HF.out HG.out H2.out K2.out rfl hm3 hk3 HF2.out)
    clear hm3 hk3
    go_wp2_with fail
    go_end0
    exact ⟨rfl, _, rfl, HFIN.out⟩

/-- what Rename does -/
def RenameP (D : DV) (k t : List UInt8) (e : Int) (D2 : DV) : Prop :=
  (readyE D.on [k, t] ≠ 0 ∧ e = readyE D.on [k, t] ∧ D2 = D) ∨
  (readyE D.on [k, t] = 0 ∧ fileOf D.files k = none ∧ e = 4 ∧ D2 = D) ∨
  (readyE D.on [k, t] = 0 ∧ ∃ f, fileOf D.files k = some f ∧ OperP D false (fun D2 => D2 = { opD D with files := putL t f (dropL k D.files) }) e D2)

theorem ready_two {on : Bool} {k t : List UInt8} (h : readyE on [k, t] = 0) : on = true ∧ goodL k = true ∧ goodL t = true := by
  unfold readyE at h
  cases on
  · simp at h
  · cases hk : goodL k
    · simp [hk] at h
    · cases ht : goodL t
      · simp [ht] at h
      · exact ⟨rfl, rfl, rfl⟩

set_option maxHeartbeats 1600000 in
theorem Rename_any {w : World} {p : Nat} {T : Nat → Option (Nat × Nat)} {D : DV} (h : DiskAt w p T D) (s t : ByteArray) (hs : s.size ≤ maxLen) (ht : t.size ≤ maxLen) (ho1 : 0 ≤ D.ops) (ho2 : D.ops ≤ 1000000000) (hl : D.left ≤ 9223372036854775807) :
    Calls Try.prog 23 #[.pointer (some ⟨p, 0, none⟩), .string s, .string t] w (Does w p T (RenameP D s.data.toList t.data.toList)) := by
  have hb : Below w.heap.size w ((((w.alloc (.cells #[.pointer (some ⟨p, 0, none⟩)] 23)).alloc (.cells #[.string s] 9)).alloc (.cells #[.string t] 9)).alloc (.cells #[.string s, .string t] 9)) := ((((Below.refl _ w).alloc (Nat.le_refl _) _).alloc (by simp) _).alloc (by simp; omega) _).alloc (by simp; omega) _
  have ha := alloc3 w (.cells #[.pointer (some ⟨p, 0, none⟩)] 23) (.cells #[.string s] 9) (.cells #[.string t] 9)
  have hb3 := Below.heap_alloc (((w.alloc (.cells #[.pointer (some ⟨p, 0, none⟩)] 23)).alloc (.cells #[.string s] 9)).alloc (.cells #[.string t] 9)) (.cells #[.string s, .string t] 9)
  have hnew := alloc1 (((w.alloc (.cells #[.pointer (some ⟨p, 0, none⟩)] 23)).alloc (.cells #[.string s] 9)).alloc (.cells #[.string t] 9)) (.cells #[.string s, .string t] 9)
  rw [show (((w.alloc (.cells #[.pointer (some ⟨p, 0, none⟩)] 23)).alloc (.cells #[.string s] 9)).alloc (.cells #[.string t] 9)).heap.size = w.heap.size + 3 by simp] at hnew
  have H := Lib.hid h
  have H0 := Lib.hid (h.below hb)
  have HS := Lib.hid hs
  have HTS := Lib.hid ht
  have HO1 := Lib.hid ho1
  have HO2 := Lib.hid ho2
  have HLf := Lib.hid hl
  have HB := Lib.hid hb
  have HA := Lib.hid ha
  have HB3 := Lib.hid hb3
  have HN := Lib.hid hnew
  clear h hs ht ho1 ho2 hl hb ha hb3 hnew
  go_enter Try.func23, Try.ntmps23
  go_wp2_with fail
  refine (ready_any H0.out _ _ _ [s, t] rfl (fun i hi => ?_) (fun x hx => ?_) (by simp)).mono ?_
  · have hi2 : i = 0 ∨ i = 1 := by simp at hi; omega
    rcases hi2 with rfl | rfl
    · rw [cell_of_row _ _ _ _ _ _ HN.out]; rfl
    · rw [cell_of_row _ _ _ _ _ _ HN.out]; rfl
  · simp at hx
    rcases hx with rfl | rfl
    · exact HS.out
    · exact HTS.out
  rintro e w1 ⟨rfl, hw⟩
  have cd : w1.cell? ⟨w.heap.size, 0, none⟩ = some (.pointer (some ⟨p, 0, none⟩)) := by rw [← hw]; exact cell_of_one ((HB3.out _ (by simp; omega)).trans HA.out.1)
  have cn : w1.cell? ⟨w.heap.size + 1, 0, none⟩ = some (.string s) := by rw [← hw]; exact cell_of_one ((HB3.out _ (by simp)).trans HA.out.2.1)
  have ct : w1.cell? ⟨w.heap.size + 2, 0, none⟩ = some (.string t) := by rw [← hw]; exact cell_of_one ((HB3.out _ (by simp)).trans HA.out.2.2)
  have hb1 : Below w.heap.size w w1 := by rw [← hw]; exact HB.out
  clear hw H0 HB HA HB3 HN
  have HB := Lib.hid hb1
  have H1 := Lib.hid (H.out.below hb1)
  obtain ⟨c0, _, _, _, _⟩ := (H.out.below hb1).cell
  clear hb1
  generalize hr0 : readyE D.on (List.map (fun s => s.data.toList) [s, t]) = r
  have hr1 : readyE D.on [s.data.toList, t.data.toList] = r := hr0
  clear hr0
  by_cases hr : r = 0
  · subst hr
    obtain ⟨hon, hg1, hg2⟩ := ready_two hr1
    have HR1 := Lib.hid hr1
    have HG2 := Lib.hid hg2
    have HLk := Lib.hid (H1.out.look HS.out)
    clear hr1 hg1 hg2 hon
    cases hf : fileOf D.files s.data.toList with
    | none =>
      have HFo := Lib.hid hf
      rw [hf] at HLk
      have hlk : ∀ n, (Instr.lookup 50 (.map (some D.mb)) (.string s) false).run Try.prog (w1.drewN n) = .ok (.pointer none) (w1.drewN n) := HLk.out
      clear hf HLk
      go_wp2_with fail
      go_quiet (fail)
      clear hlk
      go_wp2_with fail
      refine (operate_err _ _ 4 (by omega) _ _).mono ?_
      rintro e w2 ⟨rfl, hw⟩
      have ha : Hid (After w p T w2 D) := by rw [← hw]; exact (after_below HB.out (After.refl H1.out)).drewN _
      clear hw
      go_wp2_with fail
      go_ret
      exact ⟨_, D, rfl, .inr (.inl ⟨HR1.out, HFo.out, rfl, rfl⟩), ha.out⟩
    | some f =>
      have HFo := Lib.hid hf
      rw [hf] at HLk
      have hlk : ∀ n, (Instr.lookup 50 (.map (some D.mb)) (.string s) false).run Try.prog (w1.drewN n) = .ok (.pointer (some ⟨f.blk, 0, none⟩)) (w1.drewN n) := HLk.out
      clear hf HLk
      go_wp2_with fail
      go_quiet (fail)
      clear hlk
      go_wp2_with fail
      have hp : p < w.heap.size := H.out.bound p (by rw [H.out.tp]; simp)
      have tn : ∀ x, w.heap.size ≤ x → T x = none := fun x hx => by
        cases ht : T x with
        | none => rfl
        | some y => have := H.out.bound x (by rw [ht]; simp); omega
      refine (operate_any 51 _ (fun D2 => D2 = { opD D with files := putL t.data.toList f (dropL s.data.toList D.files) }) (H1.out.move (w' := w1.drewN nq) (fun _ _ => rfl) (Nat.le_refl _)) false (fun w2 h2 k2 => ?_) cf51 HO1.out HO2.out HLf.out).mono ?_
      · exact rename_do (D := opD D) h2 (cell_kept (w := w1.drewN nq) k2 (by omega) cd) (cell_kept (w := w1.drewN nq) k2 (by omega) cn) (cell_kept (w := w1.drewN nq) k2 (by omega) ct) (tn _ (Nat.le_refl _)) (tn _ (by omega)) HS.out HG2.out HFo.out
      rintro e w2 ⟨e, D2, rfl, hR, hA⟩
      have HRR := Lib.hid hR
      have HA := Lib.hid (after_below HB.out (after_drew hA))
      clear hR hA
      go_wp2_with fail
      go_ret
      exact ⟨_, D2, rfl, .inr (.inr ⟨HR1.out, f, HFo.out, HRR.out⟩), HA.out⟩
  · have hd : (r == 0) = false := by simpa using hr
    have HR1 := Lib.hid hr1
    have HR := Lib.hid hr
    clear hr1
    go_wp2_with fail
    go_quiet (fail)
    go_wp2_with fail
    refine (operate_err _ _ r HR.out _ _).mono ?_
    rintro e w2 ⟨rfl, hw⟩
    have ha : Hid (After w p T w2 D) := by rw [← hw]; exact (after_below HB.out (After.refl H1.out)).drewN _
    clear hw
    go_wp2_with fail
    go_ret
    exact ⟨_, D, rfl, .inl ⟨by rw [HR1.out]; exact HR.out, HR1.out.symm, rfl⟩, ha.out⟩
end Go.Proofs.Ytddhhgbbeeeieaa
