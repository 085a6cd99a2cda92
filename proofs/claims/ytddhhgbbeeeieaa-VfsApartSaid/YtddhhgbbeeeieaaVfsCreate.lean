/- Contracts of vfs.Disk.Create and of what it does. Conditions: a disk that was made. -/
import Derived.Test.YtddhhgbbeeeieaaVfsPut
set_option maxRecDepth 100000
namespace Go.Proofs.Ytddhhgbbeeeieaa
open Go.RowKit Go.Maps Go.Sort

def updT (T : Nat → Option (Nat × Nat)) (b : Nat) (t : Nat × Nat) : Nat → Option (Nat × Nat) := fun k => if k = b then some t else T k
theorem updT_old {w : World} {p : Nat} {T : Nat → Option (Nat × Nat)} {D : DV} (h : DiskAt w p T D) {b : Nat} (hb : w.heap.size ≤ b) (t : Nat × Nat) : ∀ k, T k ≠ none → updT T b t k = T k := fun k hk => by
  have := h.bound k hk
  unfold updT; rw [if_neg (by omega)]
theorem updT_new (T : Nat → Option (Nat × Nat)) (b : Nat) (t : Nat × Nat) : updT T b t b = some t := by unfold updT; rw [if_pos rfl]
theorem updT_cases {T : Nat → Option (Nat × Nat)} {b : Nat} {t : Nat × Nat} {k : Nat} (h : updT T b t k ≠ none) : k = b ∨ T k ≠ none := by
  unfold updT at h
  by_cases hk : k = b
  · exact .inl hk
  · rw [if_neg hk] at h; exact .inr h

def newF (b : Nat) : FileC := { blk := b, sl := .slice none 0 0, bytes := [], synced := 0 }

theorem create_fin {w w1 w2 : World} {p n : Nat} {T : Nat → Option (Nat × Nat)} {D : DV} (h : DiskAt w p T D) (hw : w1 = w.alloc (.cells #[.slice none 0 0, .int .i64 0] 80)) {k : List UInt8} (hg : goodL k = true) (hroom : (fileOf D.files k).isSome = true ∨ D.files.length < 64)
    (hm : w2.ownsMap Try.prog 9 ptrR D.mb n ((mapD D.files).put (.string k) (.lit (.int .u64 (w.heap.size : Int))))) (hk : Kept (fun x => x = D.mb) w1 w2) :
    ∃ D2, (∃ f, f.bytes = [] ∧ f.synced = 0 ∧ D2 = { D with files := putL k f D.files }) ∧ After w p T w2 D2 := by
  subst hw
  have hmb : D.mb < w.heap.size := h.bound _ (by rw [h.tm]; simp)
  have hsz : (w.alloc (.cells #[.slice none 0 0, .int .i64 0] 80)).heap.size = w.heap.size + 1 := by simp
  have hold : ∀ x, x < w.heap.size → x ≠ D.mb → w2.heap[x]? = w.heap[x]? := fun x hx hn => by
    rw [hk.block x (by omega) hn]; exact heap_old w _ x hx
  refine ⟨{ D with files := putL k (newF w.heap.size) D.files }, ⟨newF w.heap.size, rfl, rfl, rfl⟩, updT T w.heap.size (2, 0), ?_, ?_, ?_⟩
  · refine h.putFile (f := newF w.heap.size) hm ⟨?_, World.ownsRow_nil _ _ _ _, by simp [newF], by simp [newF]⟩ hg hroom (updT_old h (Nat.le_refl _) _) (updT_new _ _ _) (fun b hb => by simp [newF, Value.ownBlock] at hb) ?_ ?_ ?_
    · show w2.heap[w.heap.size]? = _
      rw [hk.block w.heap.size (by omega) (fun e => by omega)]
      exact heap_new w _
    · intro x hx
      have := hk.size
      rcases updT_cases hx with e | e
      · omega
      · have := h.bound x e; omega
    · intro k' g hg' _ e
      have := h.bound g.blk (by rw [h.tf k' g hg']; simp)
      simp [newF] at e
      omega
    · exact fun x hx hn => hold x (h.bound x hx) hn
  · exact ((Kept.refl (In T) w).alloc _).trans hk (fun x hx => .inl (by subst hx; unfold In; rw [h.tm]; simp))
  · intro x hx
    rcases updT_cases hx with e | e
    · exact .inr (by omega)
    · exact .inl e

set_option maxHeartbeats 400000 in
theorem create_do {w : World} {p bd bn : Nat} {T : Nat → Option (Nat × Nat)} {D : DV} (h : DiskAt w p T D) {s : ByteArray} (cd : w.cell? ⟨bd, 0, none⟩ = some (.pointer (some ⟨p, 0, none⟩))) (cn : w.cell? ⟨bn, 0, none⟩ = some (.string s)) (hg : goodL s.data.toList = true)
    (hroom : (fileOf D.files s.data.toList).isSome = true ∨ D.files.length < 64) :
    DoesTo p 45 #[.pointer (some ⟨bd, 0, none⟩), .pointer (some ⟨bn, 0, none⟩)] T (fun D2 => ∃ f, f.bytes = [] ∧ f.synced = 0 ∧ D2 = { D with files := putL s.data.toList f D.files }) w := by
  unfold DoesTo
  have hlen := goodL_len hg
  rw [sz] at hlen
  have H := Lib.hid h
  have HG := Lib.hid hg
  have HR := Lib.hid hroom
  have HL := Lib.hid hlen
  clear h hg hroom hlen
  go_enter Try.func45, Try.ntmps45
  go_wp2_with fail
  refine (put_any (n := D.files.length) (mb := D.mb) (M := mapD D.files) ?_ ?_ ?_ s ?_).mono ?_
  · exact ((H.out.below ((Below.refl _ w).alloc (Nat.le_refl _) _)).cell).1
  · exact (H.out.below ((Below.refl _ w).alloc (Nat.le_refl _) _)).map
  · have := H.out.room; omega
  · have := HL.out; omega
  · rintro e w2 ⟨rfl, hm, hk⟩
    have HF := Lib.hid (create_fin H.out rfl HG.out HR.out hm hk)
    clear hm hk
    go_wp2_with fail
    go_end0
    exact ⟨rfl, HF.out⟩

theorem ready_zero {on : Bool} {k : List UInt8} (h : readyE on [k] = 0) : on = true ∧ goodL k = true := by
  unfold readyE at h
  cases on
  · simp at h
  · cases hg : goodL k
    · simp [hg] at h
    · exact ⟨rfl, rfl⟩

/-- what Create does: its error, and the disk behind it -/
def CreateP (D : DV) (k : List UInt8) (e : Int) (D2 : DV) : Prop :=
  (readyE D.on [k] ≠ 0 ∧ e = readyE D.on [k] ∧ D2 = D) ∨
  (readyE D.on [k] = 0 ∧ fileOf D.files k = none ∧ 64 ≤ D.files.length ∧ e = 7 ∧ D2 = D) ∨
  (readyE D.on [k] = 0 ∧ ((fileOf D.files k).isSome = true ∨ D.files.length < 64) ∧ OperP D false (fun D2 => ∃ f, f.bytes = [] ∧ f.synced = 0 ∧ D2 = { opD D with files := putL k f D.files }) e D2)

theorem after_below {w w1 w2 : World} {p : Nat} {T : Nat → Option (Nat × Nat)} {D : DV} (hb : Below w.heap.size w w1) (h : After w1 p T w2 D) : After w p T w2 D := by
  obtain ⟨T2, h2, k2, s2⟩ := h
  refine ⟨T2, h2, (Kept.of_below hb).trans k2 (fun x hx => .inl hx), fun x hx => ?_⟩
  rcases s2 x hx with g | g
  · exact .inl g
  · exact .inr (Nat.le_trans hb.size g)

theorem After.drewN {w w1 : World} {p : Nat} {T : Nat → Option (Nat × Nat)} {D : DV} (h : After w p T w1 D) (n : Nat) : After w p T (w1.drewN n) D := by
  obtain ⟨T2, h2, k2, s2⟩ := h
  exact ⟨T2, h2.move (fun _ _ => rfl) (Nat.le_refl _), k2.drewN n, s2⟩
theorem after_drew {w w1 : World} {p n : Nat} {T : Nat → Option (Nat × Nat)} {D : DV} (h : After (w.drewN n) p T w1 D) : After w p T w1 D := by
  obtain ⟨T2, h2, k2, s2⟩ := h
  exact ⟨T2, h2, ⟨k2.os, k2.tape, k2.output, k2.size, k2.block⟩, s2⟩
theorem alloc1 (w : World) (A : Obj) : (w.alloc A).heap[w.heap.size]? = some A := heap_new w A
theorem alloc2 (w : World) (A B : Obj) : ((w.alloc A).alloc B).heap[w.heap.size]? = some A ∧ ((w.alloc A).alloc B).heap[w.heap.size + 1]? = some B := by
  refine ⟨?_, ?_⟩
  · rw [heap_old _ _ _ (by simp)]; exact alloc1 w A
  · have := alloc1 (w.alloc A) B
    rw [show (w.alloc A).heap.size = w.heap.size + 1 by simp] at this
    exact this
theorem alloc3 (w : World) (A B C : Obj) : (((w.alloc A).alloc B).alloc C).heap[w.heap.size]? = some A ∧ (((w.alloc A).alloc B).alloc C).heap[w.heap.size + 1]? = some B ∧ (((w.alloc A).alloc B).alloc C).heap[w.heap.size + 2]? = some C := by
  refine ⟨?_, ?_, ?_⟩
  · rw [heap_old _ _ _ (by simp; omega)]; exact (alloc2 w A B).1
  · rw [heap_old _ _ _ (by simp)]; exact (alloc2 w A B).2
  · have := alloc1 ((w.alloc A).alloc B) C
    rw [show ((w.alloc A).alloc B).heap.size = w.heap.size + 2 by simp] at this
    exact this
theorem cell_of_one {w : World} {b : Nat} {v : Value} {t : TypeId} {fr : Nat × Nat} (h : w.heap[b]? = some (.cells #[v] t fr)) : w.cell? ⟨b, 0, none⟩ = some v := by
  rw [cell_of_row w b 0 _ _ _ h]; rfl

theorem cf45 (w : World) (args : Array Value) : (callFunc 45 args).run Try.prog w = .ok (.enter 45 args) w := by kernel_rfl

theorem len_files {w : World} {p : Nat} {T : Nat → Option (Nat × Nat)} {D : DV} (h : DiskAt w p T D) (n : Nat) : (Builtin.len_ #[50] 3 #[.map (some D.mb)]).run Try.prog (w.drewN n) = .ok (.int .i64 (D.files.length : Int)) (w.drewN n) := by
  have hm : (w.drewN n).ownsMap Try.prog 9 ptrR D.mb D.files.length (mapD D.files) := h.map
  have := hm.len Try.underlying50 3
  rw [size_mapD] at this
  exact this

set_option maxHeartbeats 1600000 in
theorem Create_any {w : World} {p : Nat} {T : Nat → Option (Nat × Nat)} {D : DV} (h : DiskAt w p T D) (s : ByteArray) (hs : s.size ≤ maxLen) (ho1 : 0 ≤ D.ops) (ho2 : D.ops ≤ 1000000000) (hl : D.left ≤ 9223372036854775807) :
    Calls Try.prog 15 #[.pointer (some ⟨p, 0, none⟩), .string s] w (Does w p T (CreateP D s.data.toList)) := by
  have H := Lib.hid h
  have HS := Lib.hid hs
  have HO1 := Lib.hid ho1
  have HO2 := Lib.hid ho2
  have HLf := Lib.hid hl
  clear h hs ho1 ho2 hl
  go_enter Try.func15, Try.ntmps15
  go_wp2_with fail
  have hb0 : Below w.heap.size w (((w.alloc (.cells #[.pointer (some ⟨p, 0, none⟩)] 23)).alloc (.cells #[.string s] 9)).alloc (.cells #[.string s] 9)) := (((Below.refl _ w).alloc (Nat.le_refl _) _).alloc (by simp) _).alloc (by simp; omega) _
  have ha3 := alloc3 w (.cells #[.pointer (some ⟨p, 0, none⟩)] 23) (.cells #[.string s] 9) (.cells #[.string s] 9)
  refine (ready_any (H.out.below hb0) _ _ _ [s] rfl (fun i hi => by
    have : i = 0 := by simp at hi; omega
    subst this
    exact cell_of_one ha3.2.2) (fun t ht => by simp at ht; subst ht; exact HS.out) (by simp)).mono ?_
  rintro e w1 ⟨rfl, hw⟩
  have cd : w1.cell? ⟨w.heap.size, 0, none⟩ = some (.pointer (some ⟨p, 0, none⟩)) := by rw [← hw]; exact cell_of_one ha3.1
  have cn : w1.cell? ⟨w.heap.size + 1, 0, none⟩ = some (.string s) := by rw [← hw]; exact cell_of_one ha3.2.1
  rw [hw] at hb0
  clear hw ha3
  have h1 := H.out.below hb0
  have HB := Lib.hid hb0
  have H1 := Lib.hid h1
  obtain ⟨c0, _, _, _, _⟩ := h1.cell
  clear h1 hb0
  generalize hr0 : readyE D.on (List.map (fun s => s.data.toList) [s]) = r
  have hr1 : readyE D.on [s.data.toList] = r := hr0
  clear hr0
  by_cases hr : r = 0
  · subst hr
    obtain ⟨hon, hg⟩ := ready_zero hr1
    have HR1 := Lib.hid hr1
    have HG := Lib.hid hg
    have HLk := Lib.hid (H1.out.look HS.out)
    have HLn := Lib.hid (len_files H1.out)
    clear hr1 hg hon
    cases hf : fileOf D.files s.data.toList with
    | some f =>
      have HFo := Lib.hid hf
      rw [hf] at HLk
      have hlk : ∀ n, (Instr.lookup 50 (.map (some D.mb)) (.string s) false).run Try.prog (w1.drewN n) = .ok (.pointer (some ⟨f.blk, 0, none⟩)) (w1.drewN n) := HLk.out
      clear hf HLk
      go_wp2_with fail
      go_quiet (fail)
      clear hlk
      go_wp2_with fail
      have hp : p < w.heap.size := H.out.bound p (by rw [H.out.tp]; simp)
      have HROOM := Lib.hid (show (fileOf D.files s.data.toList).isSome = true ∨ D.files.length < 64 from .inl (by rw [HFo.out]; rfl))
      refine (operate_any 45 _ (fun D2 => ∃ f, f.bytes = [] ∧ f.synced = 0 ∧ D2 = { opD D with files := putL s.data.toList f D.files }) (H1.out.move (w' := w1.drewN nq) (fun _ _ => rfl) (Nat.le_refl _)) false (fun w2 h2 k2 => ?_) cf45 HO1.out HO2.out HLf.out).mono ?_
      · refine create_do h2 ?_ ?_ HG.out HROOM.out
        · rw [World.cell?_of_block (w := w1.drewN nq) (k2.block w.heap.size (World.block_lt_of_cell? w1 _ cd) (fun e => by omega))]; exact cd
        · rw [World.cell?_of_block (w := w1.drewN nq) (k2.block (w.heap.size + 1) (World.block_lt_of_cell? w1 _ cn) (fun e => by omega))]; exact cn
      rintro e w2 ⟨e, D2, rfl, hR, hA⟩
      have HRR := Lib.hid hR
      have HA := Lib.hid (after_below HB.out (after_drew hA))
      clear hR hA
      go_wp2_with fail
      go_ret
      exact ⟨_, D2, rfl, .inr (.inr ⟨HR1.out, HROOM.out, HRR.out⟩), HA.out⟩
    | none =>
      have HFo := Lib.hid hf
      rw [hf] at HLk
      have hlk : ∀ n, (Instr.lookup 50 (.map (some D.mb)) (.string s) false).run Try.prog (w1.drewN n) = .ok (.pointer none) (w1.drewN n) := HLk.out
      have hln := HLn.out
      clear hf HLk HLn
      by_cases h64 : 64 ≤ D.files.length
      · have h64' : (64 : Int) ≤ (D.files.length : Int) := by omega
        go_wp2_with fail
        go_quiet (fail)
        clear hlk hln
        go_wp2_with fail
        refine (operate_err _ _ 7 (by omega) _ _).mono ?_
        rintro e w2 ⟨rfl, hw⟩
        have ha : After w p T w2 D := by rw [← hw]; exact (after_below HB.out (After.refl H1.out)).drewN _
        clear hw
        go_wp2_with fail
        go_ret
        exact ⟨_, D, rfl, .inr (.inl ⟨HR1.out, HFo.out, h64, rfl, rfl⟩), ha⟩
      · have h64' : (D.files.length : Int) < 64 := by omega
        go_wp2_with fail
        go_quiet (fail)
        clear hlk hln
        go_wp2_with fail
        have hp : p < w.heap.size := H.out.bound p (by rw [H.out.tp]; simp)
        have HROOM := Lib.hid (show (fileOf D.files s.data.toList).isSome = true ∨ D.files.length < 64 from .inr (by omega))
        refine (operate_any 45 _ (fun D2 => ∃ f, f.bytes = [] ∧ f.synced = 0 ∧ D2 = { opD D with files := putL s.data.toList f D.files }) (H1.out.move (w' := w1.drewN nq) (fun _ _ => rfl) (Nat.le_refl _)) false (fun w2 h2 k2 => ?_) cf45 HO1.out HO2.out HLf.out).mono ?_
        · refine create_do h2 ?_ ?_ HG.out HROOM.out
          · rw [World.cell?_of_block (w := w1.drewN nq) (k2.block w.heap.size (World.block_lt_of_cell? w1 _ cd) (fun e => by omega))]; exact cd
          · rw [World.cell?_of_block (w := w1.drewN nq) (k2.block (w.heap.size + 1) (World.block_lt_of_cell? w1 _ cn) (fun e => by omega))]; exact cn
        rintro e w2 ⟨e, D2, rfl, hR, hA⟩
        have HRR := Lib.hid hR
        have HA := Lib.hid (after_below HB.out (after_drew hA))
        clear hR hA
        go_wp2_with fail
        go_ret
        exact ⟨_, D2, rfl, .inr (.inr ⟨HR1.out, HROOM.out, HRR.out⟩), HA.out⟩
  · have hd : (r == 0) = false := by simpa using hr
    have HR1 := Lib.hid hr1
    have HR := Lib.hid hr
    clear hr1
    go_wp2_with fail
    go_quiet (fail)
    go_wp2_with fail
    refine (operate_err _ _ r HR.out _ _).mono ?_
    rintro e w2 ⟨rfl, hw⟩
    have ha : After w p T w2 D := by rw [← hw]; exact (after_below HB.out (After.refl H1.out)).drewN _
    clear hw
    go_wp2_with fail
    go_ret
    exact ⟨_, D, rfl, .inl ⟨by rw [HR1.out]; exact HR.out, HR1.out.symm, rfl⟩, ha⟩
end Go.Proofs.Ytddhhgbbeeeieaa
