/- A disk of vfs with one file of any good name: what each call does to it. Conditions: none. -/
import Derived.Test.YtddhhgbbeeeieaaVfsLives
set_option maxRecDepth 100000
namespace Go.Proofs.Ytddhhgbbeeeieaa
open Go.RowKit Go.Maps Go.Sort

/-- append as one step of a region that draws, guarded or not, its run being known -/
theorem step_append_want {P : Program} {ops : Array Oper} {o : Oper} {a : Act} {w w' : World} {K : Act → World → Prop} {Q : Exit → Act → World → Prop} {E : Prop} {sv xv v' : Value}
    (hw : Region.wanted o (yielded ops a.tmps) = true) (s x : Operand) (t : TypeId) (hop : o.op = Op.call { callee := Callee.builtin Builtin.append, args := #[s, x], argTypes := #[t, t] }) (hs : a.eval s = sv) (hx : a.eval x = xv)
    (hrun : (Builtin.append_ #[t, t] o.type #[sv, xv]).run P w = .ok v' w') (hK : K (a.put o.dst v') w') :
    if Region.wanted o (yielded ops a.tmps) = true then Oper.wp P o a w K Q else E := by
  rw [if_pos hw]
  unfold Oper.wp
  simp [execOp, hop, resolve, invoke, builtin, hs, hx, hrun, Result.andThen]
  exact hK

/-- a disk with one file -/
structure One (nm : List UInt8) (D : DV) (b : List UInt8) (s : Nat) (on : Bool) (ops left : Int) (keep : List Int) : Prop where
  file : ∃ f, D.files = [(nm, f)] ∧ f.bytes = b ∧ f.synced = s
  on : D.on = on
  ops : D.ops = ops
  left : D.left = left
  keep : D.keep = keep

theorem fileOf_one (nm : List UInt8) (f : FileC) : fileOf [(nm, f)] nm = some f := by
  unfold fileOf; rw [List.find?_cons_of_pos (by simp)]; rfl
theorem find_one {nm : List UInt8} (hnm : readyE true [nm] = 0) {D : DV} {b : List UInt8} {s : Nat} {ops left : Int} {keep : List Int} (h : One nm D b s true ops left keep) : findE D.files D.on nm = 0 := by
  obtain ⟨f, hf, _⟩ := h.file
  unfold findE
  rw [h.on, hnm, hf, fileOf_one nm]; rfl
theorem index_one {nm : List UInt8} {L : List (List UInt8 × FileC)} {f g : FileC} {k : List UInt8} {i : Nat} (h : L = [(nm, f)]) (hi : L[i]? = some (k, g)) : i = 0 ∧ g = f := by
  subst h
  cases i with
  | zero => simp at hi; exact ⟨rfl, hi.2.symm⟩
  | succ i => simp at hi

theorem one_create {nm : List UInt8} (hnm : readyE true [nm] = 0) {D D2 : DV} {e : Int} (hD : D = emptyDV D.mb) (h : CreateP D nm e D2) : e = 0 ∧ One nm D2 [] 0 true 1 0 [] := by
  have e1 : D.on = true := by rw [hD]; rfl
  have e2 : D.files = [] := by rw [hD]; rfl
  have e3 : D.left = 0 := by rw [hD]; rfl
  have e4 : D.ops = 0 := by rw [hD]; rfl
  have e5 : D.keep = [] := by rw [hD]; rfl
  have hr : readyE D.on [nm] = 0 := by rw [e1]; exact hnm
  rcases h with ⟨h, _⟩ | ⟨_, _, h, _⟩ | ⟨_, _, h⟩
  · exact absurd hr h
  · rw [e2] at h; simp at h
  · rcases h with ⟨_, rfl, f, hb, hs, rfl⟩ | ⟨h, _⟩ | ⟨h, _⟩
    · refine ⟨rfl, ⟨f, ?_, hb, hs⟩, e1, ?_, ?_, e5⟩
      · show putL nm f D.files = _
        rw [e2]; rfl
      · show D.ops + 1 = 1
        rw [e4]; rfl
      · show (if 0 < D.left then D.left - 1 else D.left) = 0
        rw [e3]; rfl
    · omega
    · omega

theorem one_write {nm : List UInt8} (hnm : readyE true [nm] = 0) {D D2 : DV} {e : Int} {b l : List UInt8} {s : Nat} {ops left : Int} {keep : List Int} (h : One nm D b s true ops left keep) (hl : left = 0) (hlen : b.length + l.length ≤ 1048576) (hw : WriteP D nm l e D2) : e = 0 ∧ One nm D2 (b ++ l) s true (ops + 1) 0 keep := by
  obtain ⟨f, hf, hb, hs⟩ := h.file
  rcases hw with ⟨g, _⟩ | ⟨_, f', g, g2, _⟩ | ⟨_, i, f', g, _, g2⟩
  · exact absurd (find_one hnm h) g
  · rw [hf, fileOf_one nm] at g
    cases g
    rw [hb] at g2
    omega
  · obtain ⟨rfl, rfl⟩ := index_one hf g
    rcases g2 with ⟨_, rfl, f2, h1, h2, h3, rfl⟩ | ⟨g2, _⟩ | ⟨g2, _⟩
    · refine ⟨rfl, ⟨f2, ?_, by rw [h2, hb], by rw [h3, hs]⟩, h.on, ?_, ?_, h.keep⟩
      · show D.files.set 0 _ = _
        rw [hf]; rfl
      · show D.ops + 1 = _
        rw [h.ops]
      · show (if 0 < D.left then D.left - 1 else D.left) = 0
        rw [h.left, hl]; rfl
    · rw [h.left, hl] at g2; omega
    · rw [h.left, hl] at g2; omega

theorem one_sync {nm : List UInt8} (hnm : readyE true [nm] = 0) {D D2 : DV} {e : Int} {b : List UInt8} {s : Nat} {ops left : Int} {keep : List Int} (h : One nm D b s true ops left keep) (hl : left = 0) (hw : SyncP D nm e D2) : e = 0 ∧ One nm D2 b b.length true (ops + 1) 0 keep := by
  obtain ⟨f, hf, hb, hs⟩ := h.file
  rcases hw with ⟨g, _⟩ | ⟨_, i, f', g, g2⟩
  · exact absurd (find_one hnm h) g
  · obtain ⟨rfl, rfl⟩ := index_one hf g
    rcases g2 with ⟨_, rfl, rfl⟩ | ⟨g2, _⟩ | ⟨g2, _⟩
    · refine ⟨rfl, ⟨syncF f', ?_, hb, by show f'.bytes.length = _; rw [hb]⟩, h.on, ?_, ?_, h.keep⟩
      · show D.files.set 0 _ = _
        rw [hf]; rfl
      · show D.ops + 1 = _
        rw [h.ops]
      · show (if 0 < D.left then D.left - 1 else D.left) = 0
        rw [h.left, hl]; rfl
    · rw [h.left, hl] at g2; omega
    · rw [h.left, hl] at g2; omega

theorem one_cut {nm : List UInt8} {D D2 : DV} {e n : Int} {b : List UInt8} {s : Nat} {ops left : Int} {keep l : List Int} (h : One nm D b s true ops left keep) (hn : 0 ≤ n) (hw : CutP D n l e D2) : e = 0 ∧ One nm D2 b s true ops n l := by
  rcases hw with ⟨g, _⟩ | ⟨_, g, _⟩ | ⟨_, _, rfl, ks, rfl⟩
  · rw [h.on] at g; cases g
  · omega
  · exact ⟨rfl, h.file, h.on, h.ops, rfl, rfl⟩

/-- a Sync is cut -/
theorem one_syncfail {nm : List UInt8} (hnm : readyE true [nm] = 0) {D D2 : DV} {e : Int} {b : List UInt8} {s : Nat} {ops : Int} {keep : List Int} (h : One nm D b s true ops 1 keep) (hw : SyncP D nm e D2) :
    e = 9 ∧ One nm D2 (b.take (s + (stayN keep 0 ((b.length : Int) - s)).toNat)) (s + (stayN keep 0 ((b.length : Int) - s)).toNat) false (ops + 1) 0 [] := by
  obtain ⟨f, hf, hb, hs⟩ := h.file
  rcases hw with ⟨g, _⟩ | ⟨_, i, f', g, g2⟩
  · exact absurd (find_one hnm h) g
  · obtain ⟨rfl, rfl⟩ := index_one hf g
    rcases g2 with ⟨g2, _⟩ | ⟨_, g2, _⟩ | ⟨_, _, rfl, rfl⟩
    · exact absurd h.left g2
    · cases g2
    · have hk : D.keep = keep := h.keep
      have e1 : failN keep 0 f' = s + (stayN keep 0 ((b.length : Int) - s)).toNat := by
        unfold failN; rw [hs, hb]
      refine ⟨rfl, ⟨failF keep 0 f', ?_, ?_, ?_⟩, rfl, ?_, ?_, rfl⟩
      · show failK D.keep D.files D.files.length = _
        rw [hf, hk]; rfl
      · show f'.bytes.take (failN keep 0 f') = _
        rw [e1, hb]
      · show failN keep 0 f' = _
        rw [e1]
      · show D.ops + 1 = _
        rw [h.ops]
      · show (if 0 < D.left then D.left - 1 else D.left) = 0
        rw [h.left]; rfl

/-- where the example stands: the disk, what was there, the tags, and what the disk is -/
def OneAt (nm : List UInt8) (w0 w : World) (p : Nat) (D : DV) (b : List UInt8) (s : Nat) (on : Bool) (ops left : Int) (keep : List Int) : Prop :=
  ∃ T, DiskAt w p T D ∧ Below w0.heap.size w0 w ∧ (∀ k, T k ≠ none → w0.heap.size ≤ k) ∧ One nm D b s on ops left keep

section
variable {s0 : ByteArray} (hss : s0.size ≤ maxLen) (hnm : readyE true [s0.data.toList] = 0) {w0 w : World} {p : Nat} {D : DV} {b : List UInt8} {s : Nat} {ops left : Int} {keep : List Int}

include hss hnm
theorem onat_write (h : OneAt s0.data.toList w0 w p D b s true ops 0 keep) {bv : Value} {l : List UInt8} (hbv : Holds8 w bv l) (hold : ∀ (ad : Addr) (n c : Nat), bv = .slice (some ad) n c → n ≠ 0 → ad.block < w0.heap.size) (hlen : b.length + l.length ≤ 1048576) (ho1 : 0 ≤ ops) (ho2 : ops ≤ 1000) :
    Calls Try.prog 16 #[.pointer (some ⟨p, 0, none⟩), .string s0, bv] w fun r w' => r = .returned (.int .i64 0) ∧ Hid (∃ D2, OneAt s0.data.toList w0 w' p D2 (b ++ l) s true (ops + 1) 0 keep) := by
  obtain ⟨T, h1, hB, hT, L⟩ := h
  refine (Write_any h1 s0 hss (l := l) hbv (fun ad n c e hn => by
    cases ht : T ad.block with
    | none => rfl
    | some x => have h2 := hT ad.block (by rw [ht]; simp); have h3 := hold ad n c e hn; omega) (by rw [L.ops]; exact ho1) (by rw [L.ops]; omega) (by rw [L.left]; omega)).mono ?_
  rintro e w' ⟨r, D2, rfl, hR, hA⟩
  obtain ⟨rfl, L2⟩ := one_write hnm L rfl (by omega) hR
  obtain ⟨T2, h2, hB2, hT2⟩ := live_step hB hT hA
  exact ⟨rfl, D2, T2, h2, hB2, hT2, L2⟩

theorem onat_syncfail (h : OneAt s0.data.toList w0 w p D b s true ops 1 keep) (ho1 : 0 ≤ ops) (ho2 : ops ≤ 1000) :
    Calls Try.prog 17 #[.pointer (some ⟨p, 0, none⟩), .string s0] w fun r w' => r = .returned (.int .i64 9) ∧
      Hid (∃ D2, OneAt s0.data.toList w0 w' p D2 (b.take (s + (stayN keep 0 ((b.length : Int) - s)).toNat)) (s + (stayN keep 0 ((b.length : Int) - s)).toNat) false (ops + 1) 0 []) := by
  obtain ⟨T, h1, hB, hT, L⟩ := h
  refine (Sync_any h1 s0 hss (by rw [L.ops]; exact ho1) (by rw [L.ops]; omega) (by rw [L.left]; omega)).mono ?_
  rintro e w' ⟨r, D2, rfl, hR, hA⟩
  obtain ⟨rfl, L2⟩ := one_syncfail hnm L hR
  obtain ⟨T2, h2, hB2, hT2⟩ := live_step hB hT hA
  exact ⟨rfl, D2, T2, h2, hB2, hT2, L2⟩

theorem onat_sync (h : OneAt s0.data.toList w0 w p D b s true ops 0 keep) (ho1 : 0 ≤ ops) (ho2 : ops ≤ 1000) :
    Calls Try.prog 17 #[.pointer (some ⟨p, 0, none⟩), .string s0] w fun r w' => r = .returned (.int .i64 0) ∧ Hid (∃ D2, OneAt s0.data.toList w0 w' p D2 b b.length true (ops + 1) 0 keep) := by
  obtain ⟨T, h1, hB, hT, L⟩ := h
  refine (Sync_any h1 s0 hss (by rw [L.ops]; exact ho1) (by rw [L.ops]; omega) (by rw [L.left]; omega)).mono ?_
  rintro e w' ⟨r, D2, rfl, hR, hA⟩
  obtain ⟨rfl, L2⟩ := one_sync hnm L rfl hR
  obtain ⟨T2, h2, hB2, hT2⟩ := live_step hB hT hA
  exact ⟨rfl, D2, T2, h2, hB2, hT2, L2⟩

omit hss hnm in
theorem onat_cut (h : OneAt s0.data.toList w0 w p D b s true ops left keep) (l : List Int) (n : Nat) (hn : n = l.length) (c : Array Value) (hc : c.toList = i64s l) (hlen : l.length ≤ 1000) (m : Int) (hm : 0 ≤ m) :
    Calls Try.prog 18 #[.pointer (some ⟨p, 0, none⟩), .int .i64 m, .slice (some ⟨w.heap.size, 0, none⟩) n n] (w.alloc (.cells c 3)) fun r w' => r = .returned (.int .i64 0) ∧ Hid (∃ D2, OneAt s0.data.toList w0 w' p D2 b s true ops m l) := by
  obtain ⟨T, h1, hB, hT, L⟩ := h
  have hb : Below w.heap.size w (w.alloc (.cells c 3)) := (Below.refl _ w).alloc (Nat.le_refl _) _
  refine (Cut_any (h1.below hb) m (l := l) (holds_new64 (alloc1 w _) hc n hn) (by omega)).mono ?_
  rintro e w' ⟨r, D2, rfl, hR, hA⟩
  obtain ⟨rfl, L2⟩ := one_cut L hm hR
  obtain ⟨T2, h2, hB2, hT2⟩ := live_step (hB.trans (hb.mono hB.size)) hT hA
  exact ⟨rfl, D2, T2, h2, hB2, hT2, L2⟩

omit hss hnm in
theorem onat_start {on : Bool} (h : OneAt s0.data.toList w0 w p D b s on ops left keep) :
    Calls Try.prog 20 #[.pointer (some ⟨p, 0, none⟩)] w fun r w' => r = .returned (.tuple #[]) ∧ Hid (∃ D2, OneAt s0.data.toList w0 w' p D2 b s true ops left keep) := by
  obtain ⟨T, h1, hB, hT, L⟩ := h
  refine (Start_any h1).mono ?_
  rintro e w' ⟨rfl, hA⟩
  obtain ⟨T2, h2, hB2, hT2⟩ := live_step hB hT hA
  exact ⟨rfl, _, T2, h2, hB2, hT2, L.file, rfl, L.ops, L.left, L.keep⟩

theorem onat_create (h : ∃ T D, DiskAt w p T D ∧ D = emptyDV D.mb ∧ Below w0.heap.size w0 w ∧ (∀ k, T k ≠ none → w0.heap.size ≤ k)) :
    Calls Try.prog 15 #[.pointer (some ⟨p, 0, none⟩), .string s0] w fun r w' => r = .returned (.int .i64 0) ∧ Hid (∃ D2, OneAt s0.data.toList w0 w' p D2 [] 0 true 1 0 []) := by
  obtain ⟨T, D, h1, hD, hB, hT⟩ := h
  have e3 : D.left = 0 := by rw [hD]; rfl
  have e4 : D.ops = 0 := by rw [hD]; rfl
  refine (Create_any h1 s0 hss (by rw [e4]; omega) (by rw [e4]; omega) (by rw [e3]; omega)).mono ?_
  rintro e w' ⟨r, D2, rfl, hR, hA⟩
  obtain ⟨rfl, L2⟩ := one_create hnm hD hR
  obtain ⟨T2, h2, hB2, hT2⟩ := live_step hB hT hA
  exact ⟨rfl, D2, T2, h2, hB2, hT2, L2⟩

theorem onat_read (h : OneAt s0.data.toList w0 w p D b s true ops left keep) :
    Calls Try.prog 21 #[.pointer (some ⟨p, 0, none⟩), .string s0] w fun r w' => ∃ v, r = .returned (.tuple #[v, .int .i64 0]) ∧ Hid (w'.ownsRow w.heap.size 5 1 v b.length (u8s b)) ∧ Hid (OneAt s0.data.toList w0 w' p D b s true ops left keep) := by
  obtain ⟨T, h1, hB, hT, L⟩ := h
  refine (Read_any h1 s0 hss).mono ?_
  rintro e w' ⟨v, l, rfl, hb, hrow, hc⟩
  have hz := find_one hnm L
  obtain ⟨f, hf, hfb, _⟩ := L.file
  have hl : l = b := by
    rcases hc with ⟨g, _⟩ | ⟨_, f', g, g2⟩
    · exact absurd hz g
    · have : fileOf D.files s0.data.toList = some f' := g
      rw [hf, fileOf_one s0.data.toList] at this
      cases this
      rw [g2, hfb]
  subst hl
  refine ⟨v, ?_, hrow, T, h1.below hb, hB.trans (hb.mono hB.size), hT, L⟩
  have hz' : findE D.files D.on (s0 : ByteArray).data.toList = 0 := hz
  rw [hz']

omit hss hnm in
theorem onat_ops (h : OneAt s0.data.toList w0 w p D b s true ops left keep) : Calls Try.prog 28 #[.pointer (some ⟨p, 0, none⟩)] w fun r w' => r = .returned (.int .i64 ops) ∧ w = w' := by
  obtain ⟨T, h1, hB, hT, L⟩ := h
  refine (Ops_any h1).mono ?_
  rintro e w' ⟨rfl, rfl⟩
  exact ⟨by rw [L.ops], rfl⟩

omit hss hnm in
theorem onat_on {on : Bool} (h : OneAt s0.data.toList w0 w p D b s on ops left keep) : Calls Try.prog 19 #[.pointer (some ⟨p, 0, none⟩)] w fun r w' => r = .returned (.bool on) ∧ w = w' := by
  obtain ⟨T, h1, hB, hT, L⟩ := h
  refine (On_any h1).mono ?_
  rintro e w' ⟨rfl, rfl⟩
  exact ⟨by rw [L.on], rfl⟩
end


theorem str_of_holds {w : World} {v : Value} {l : List UInt8} (h : Holds8 w v l) : (convert 30 9 v).run Try.prog w = .ok (.string ⟨l.toArray⟩) w := by
  obtain ⟨a, c, rfl, _, h2⟩ := h
  rcases h2 with ⟨rfl, rfl, rfl⟩ | ⟨ad, rfl, hc⟩
  · exact run_convert_bytes_nil w _ _ Try.underlying30 Try.underlying5 0 0 _ Try.underlying9
  · have hl : (loadCells ad l.length).run Try.prog w = .ok ((l.map fun c => (c.toNat : Int)).map (Value.int .u8)).toArray w := by
      have := run_loadCells_list (P := Try.prog) w ad (u8s l) hc
      simpa [u8s, List.map_map, Function.comp_def] using this
    rw [run_convert_bytes_string w _ _ _ _ _ _ Try.underlying30 Try.underlying5 Try.underlying9, run_bytesToString w _ _ _ _ hl, foldl_push_bytes]
    congr 2
    have e : (List.map (fun n : Int => UInt8.ofNat n.toNat) (List.map (fun c : UInt8 => (c.toNat : Int)) l)) = l := by
      rw [List.map_map]
      conv => rhs; rw [← List.map_id l]
      apply List.map_congr_left
      intro c _
      simp
    rw [e]
    apply ByteArray.ext
    simp [ByteArray.empty, ByteArray.emptyWithCapacity]
    rfl

set_option maxHeartbeats 400000 in
theorem Same_any {w : World} {v1 v2 : Value} {l1 l2 : List UInt8} (h1 : Holds8 w v1 l1) (h2 : Holds8 w v2 l2) :
    Calls Try.prog 22 #[v1, v2] w fun r w' => r = .returned (.bool (decide (l1 = l2))) ∧ w = w' := by
  have s1 := str_of_holds h1
  have s2 := str_of_holds h2
  obtain ⟨a1, c1, rfl, _, _⟩ := h1
  obtain ⟨a2, c2, rfl, _, _⟩ := h2
  go_enter Try.func22, Try.ntmps22
  go_wp2
  go_ret
  refine ⟨ret_bool ?_, rfl⟩
  rw [Bool.eq_iff_iff]
  simp
end Go.Proofs.Ytddhhgbbeeeieaa
