/- The document's example for vfs is as it says: taluslaw01.lives answers true in whatever world, and nothing that was there changes. Conditions: none. -/
import Derived.Test.YtddhhgbbeeeieaaVfsRead
set_option maxRecDepth 100000
namespace Go.Proofs.Ytddhhgbbeeeieaa
open Go.RowKit Go.Maps Go.Sort

theorem live_step {w0 w w' : World} {p : Nat} {T : Nat → Option (Nat × Nat)} {D' : DV} (hB : Below w0.heap.size w0 w) (hT : ∀ k, T k ≠ none → w0.heap.size ≤ k) (h : After w p T w' D') :
    ∃ T', DiskAt w' p T' D' ∧ Below w0.heap.size w0 w' ∧ ∀ k, T' k ≠ none → w0.heap.size ≤ k := by
  obtain ⟨T2, h2, k2, s2⟩ := h
  refine ⟨T2, h2, hB.trans (k2.below hB.size hT), fun k hk => ?_⟩
  rcases s2 k hk with g | g
  · exact hT k g
  · exact Nat.le_trans hB.size g

/-- the one file of the example -/
structure Live (D : DV) (b : List UInt8) (s : Nat) (on : Bool) (ops left : Int) (keep : List Int) : Prop where
  file : ∃ f, D.files = [([97], f)] ∧ f.bytes = b ∧ f.synced = s
  on : D.on = on
  ops : D.ops = ops
  left : D.left = left
  keep : D.keep = keep

theorem ready97 : readyE true [[97]] = 0 := by decide
theorem fileOf97 (f : FileC) : fileOf [([97], f)] [97] = some f := rfl
theorem find97 {D : DV} {b : List UInt8} {s : Nat} {ops left : Int} {keep : List Int} (h : Live D b s true ops left keep) : findE D.files D.on [97] = 0 := by
  obtain ⟨f, hf, _⟩ := h.file
  unfold findE
  rw [h.on, ready97, hf, fileOf97]; rfl
theorem index97 {L : List (List UInt8 × FileC)} {f g : FileC} {k : List UInt8} {i : Nat} (h : L = [([97], f)]) (hi : L[i]? = some (k, g)) : i = 0 ∧ g = f := by
  subst h
  cases i with
  | zero => simp at hi; exact ⟨rfl, hi.2.symm⟩
  | succ i => simp at hi

theorem live_create {D D2 : DV} {e : Int} (hD : D = emptyDV D.mb) (h : CreateP D [97] e D2) : e = 0 ∧ Live D2 [] 0 true 1 0 [] := by
  have e1 : D.on = true := by rw [hD]; rfl
  have e2 : D.files = [] := by rw [hD]; rfl
  have e3 : D.left = 0 := by rw [hD]; rfl
  have e4 : D.ops = 0 := by rw [hD]; rfl
  have e5 : D.keep = [] := by rw [hD]; rfl
  have hr : readyE D.on [[97]] = 0 := by rw [e1]; exact ready97
  rcases h with ⟨h, _⟩ | ⟨_, _, h, _⟩ | ⟨_, _, h⟩
  · exact absurd hr h
  · rw [e2] at h; simp at h
  · rcases h with ⟨_, rfl, f, hb, hs, rfl⟩ | ⟨h, _⟩ | ⟨h, _⟩
    · refine ⟨rfl, ⟨f, ?_, hb, hs⟩, e1, ?_, ?_, e5⟩
      · show putL [97] f D.files = _
        rw [e2]; rfl
      · show D.ops + 1 = 1
        rw [e4]; rfl
      · show (if 0 < D.left then D.left - 1 else D.left) = 0
        rw [e3]; rfl
    · omega
    · omega

theorem live_write {D D2 : DV} {e : Int} {b l : List UInt8} {s : Nat} {ops left : Int} {keep : List Int} (h : Live D b s true ops left keep) (hl : left = 0) (hlen : b.length + l.length ≤ 1048576) (hw : WriteP D [97] l e D2) : e = 0 ∧ Live D2 (b ++ l) s true (ops + 1) 0 keep := by
  obtain ⟨f, hf, hb, hs⟩ := h.file
  rcases hw with ⟨g, _⟩ | ⟨_, f', g, g2, _⟩ | ⟨_, i, f', g, _, g2⟩
  · exact absurd (find97 h) g
  · rw [hf, fileOf97] at g
    cases g
    rw [hb] at g2
    omega
  · obtain ⟨rfl, rfl⟩ := index97 hf g
    rcases g2 with ⟨_, rfl, f2, h1, h2, h3, rfl⟩ | ⟨g2, _⟩ | ⟨g2, _⟩
    · refine ⟨rfl, ⟨f2, ?_, by rw [h2, hb], by rw [h3, hs]⟩, h.on, ?_, ?_, h.keep⟩
      · show D.files.set 0 _ = _
        rw [hf]; rfl
      · show D.ops + 1 = _
        rw [h.ops]
      · show (if 0 < D.left then D.left - 1 else D.left) = 0
        rw [h.left, hl]; rfl
    · rw [h.left, hl] at g2; omega
    · rw [h.left, hl] at g2; omega

theorem live_sync {D D2 : DV} {e : Int} {b : List UInt8} {s : Nat} {ops left : Int} {keep : List Int} (h : Live D b s true ops left keep) (hl : left = 0) (hw : SyncP D [97] e D2) : e = 0 ∧ Live D2 b b.length true (ops + 1) 0 keep := by
  obtain ⟨f, hf, hb, hs⟩ := h.file
  rcases hw with ⟨g, _⟩ | ⟨_, i, f', g, g2⟩
  · exact absurd (find97 h) g
  · obtain ⟨rfl, rfl⟩ := index97 hf g
    rcases g2 with ⟨_, rfl, rfl⟩ | ⟨g2, _⟩ | ⟨g2, _⟩
    · refine ⟨rfl, ⟨syncF f', ?_, hb, by show f'.bytes.length = _; rw [hb]⟩, h.on, ?_, ?_, h.keep⟩
      · show D.files.set 0 _ = _
        rw [hf]; rfl
      · show D.ops + 1 = _
        rw [h.ops]
      · show (if 0 < D.left then D.left - 1 else D.left) = 0
        rw [h.left, hl]; rfl
    · rw [h.left, hl] at g2; omega
    · rw [h.left, hl] at g2; omega

theorem live_cut {D D2 : DV} {e n : Int} {b : List UInt8} {s : Nat} {ops left : Int} {keep l : List Int} (h : Live D b s true ops left keep) (hn : 0 ≤ n) (hw : CutP D n l e D2) : e = 0 ∧ Live D2 b s true ops n l := by
  rcases hw with ⟨g, _⟩ | ⟨_, g, _⟩ | ⟨_, _, rfl, ks, rfl⟩
  · rw [h.on] at g; cases g
  · omega
  · exact ⟨rfl, h.file, h.on, h.ops, rfl, rfl⟩

/-- an operation that lays bytes is cut -/
theorem live_fail {D D2 : DV} {e : Int} {b l : List UInt8} {s : Nat} {ops : Int} {keep : List Int} (h : Live D b s true ops 1 keep) (hlen : b.length + l.length ≤ 1048576) (hw : WriteP D [97] l e D2) :
    e = 9 ∧ Live D2 ((b ++ l).take (s + (stayN keep 0 (((b ++ l).length : Int) - s)).toNat)) (s + (stayN keep 0 (((b ++ l).length : Int) - s)).toNat) false (ops + 1) 0 [] := by
  obtain ⟨f, hf, hb, hs⟩ := h.file
  rcases hw with ⟨g, _⟩ | ⟨_, f', g, g2, _⟩ | ⟨_, i, f', g, _, g2⟩
  · exact absurd (find97 h) g
  · rw [hf, fileOf97] at g
    cases g
    rw [hb] at g2
    omega
  · obtain ⟨rfl, rfl⟩ := index97 hf g
    rcases g2 with ⟨g2, _⟩ | ⟨_, _, rfl, D1, ⟨f2, h1, h2, h3, rfl⟩, rfl⟩ | ⟨_, g2, _⟩
    · exact absurd h.left g2
    · have hk : D.keep = keep := h.keep
      have e1 : failN keep 0 f2 = s + (stayN keep 0 (((b ++ l).length : Int) - s)).toNat := by
        unfold failN; rw [h2, h3, hb, hs]
      refine ⟨rfl, ⟨failF keep 0 f2, ?_, ?_, ?_⟩, rfl, ?_, ?_, rfl⟩
      · show failK D.keep (D.files.set 0 _) _ = _
        rw [hf, hk]; rfl
      · show f2.bytes.take (failN keep 0 f2) = _
        rw [e1, h2, hb]
      · show failN keep 0 f2 = _
        rw [e1]
      · show D.ops + 1 = _
        rw [h.ops]
      · show (if 0 < D.left then D.left - 1 else D.left) = 0
        rw [h.left]; rfl
    · cases g2

theorem holds_new {w : World} {b : Nat} {l : List UInt8} {c : Array Value} {fr : Nat × Nat} (h : w.heap[b]? = some (.cells c 5 fr)) (hc : c.toList = u8s l) (n : Nat) (hn : n = l.length) : Holds8 w (.slice (some ⟨b, 0, none⟩) n n) l := by
  subst hn
  refine ⟨_, _, rfl, Nat.le_refl _, .inr ⟨_, rfl, fun j u hj => ?_⟩⟩
  have : (⟨b, 0, none⟩ : Addr).add j = ⟨b, j, none⟩ := by unfold Addr.add; split <;> simp_all
  rw [this, cell_of_row w _ _ _ _ _ h, ← Array.getElem?_toList, hc]
  exact hj
theorem holds_new64 {w : World} {b : Nat} {l : List Int} {c : Array Value} (h : w.heap[b]? = some (.cells c 3 (0, 0))) (hc : c.toList = i64s l) (n : Nat) (hn : n = l.length) : Holds64 w (.slice (some ⟨b, 0, none⟩) n n) l := by
  subst hn
  refine ⟨_, _, rfl, Nat.le_refl _, .inr ⟨_, rfl, fun j u hj => ?_⟩⟩
  have : (⟨b, 0, none⟩ : Addr).add j = ⟨b, j, none⟩ := by unfold Addr.add; split <;> simp_all
  rw [this, cell_of_row w _ _ _ _ _ h, ← Array.getElem?_toList, hc]
  exact hj
theorem sep_new {w : World} {p : Nat} {T : Nat → Option (Nat × Nat)} {D : DV} (h : DiskAt w p T D) (n c : Nat) : Sep T (.slice (some ⟨w.heap.size, 0, none⟩) n c) := by
  intro ad n' c' e _
  simp only [Value.slice.injEq, Option.some.injEq] at e
  obtain ⟨rfl, _, _⟩ := e
  cases ht : T w.heap.size with
  | none => rfl
  | some x => have := h.bound w.heap.size (by rw [ht]; simp); omega
theorem size97 : (⟨#[97]⟩ : ByteArray).size ≤ maxLen := by unfold maxLen; show 1 ≤ _; omega

/-- where the example stands: the disk, what was there, the tags, and what the disk is -/
def At (w0 w : World) (p : Nat) (D : DV) (b : List UInt8) (s : Nat) (on : Bool) (ops left : Int) (keep : List Int) : Prop :=
  ∃ T, DiskAt w p T D ∧ Below w0.heap.size w0 w ∧ (∀ k, T k ≠ none → w0.heap.size ≤ k) ∧ Live D b s on ops left keep

section
variable {w0 w : World} {p : Nat} {D : DV} {b : List UInt8} {s : Nat} {ops left : Int} {keep : List Int}

theorem at_write (h : At w0 w p D b s true ops 0 keep) (l : List UInt8) (n : Nat) (hn : n = l.length) (c : Array Value) (fr : Nat × Nat) (hc : c.toList = u8s l) (hlen : b.length + l.length ≤ 1000) (ho1 : 0 ≤ ops) (ho2 : ops ≤ 1000) :
    Calls Try.prog 16 #[.pointer (some ⟨p, 0, none⟩), .string ⟨#[97]⟩, .slice (some ⟨w.heap.size, 0, none⟩) n n] (w.alloc (.cells c 5 fr)) fun r w' => r = .returned (.int .i64 0) ∧ Hid (∃ D2, At w0 w' p D2 (b ++ l) s true (ops + 1) 0 keep) := by
  obtain ⟨T, h1, hB, hT, L⟩ := h
  have hb : Below w.heap.size w (w.alloc (.cells c 5 fr)) := (Below.refl _ w).alloc (Nat.le_refl _) _
  refine (Write_any (h1.below hb) ⟨#[97]⟩ size97 (l := l) (holds_new (alloc1 w _) hc n hn) (sep_new h1 n n) (by rw [L.ops]; exact ho1) (by rw [L.ops]; omega) (by rw [L.left]; omega)).mono ?_
  rintro e w' ⟨r, D2, rfl, hR, hA⟩
  obtain ⟨rfl, L2⟩ := live_write L rfl (by omega) hR
  obtain ⟨T2, h2, hB2, hT2⟩ := live_step (hB.trans (hb.mono hB.size)) hT hA
  exact ⟨rfl, D2, T2, h2, hB2, hT2, L2⟩

theorem at_fail (h : At w0 w p D b s true ops 1 keep) (l : List UInt8) (n : Nat) (hn : n = l.length) (c : Array Value) (fr : Nat × Nat) (hc : c.toList = u8s l) (hlen : b.length + l.length ≤ 1000) (ho1 : 0 ≤ ops) (ho2 : ops ≤ 1000) :
    Calls Try.prog 16 #[.pointer (some ⟨p, 0, none⟩), .string ⟨#[97]⟩, .slice (some ⟨w.heap.size, 0, none⟩) n n] (w.alloc (.cells c 5 fr)) fun r w' => r = .returned (.int .i64 9) ∧
      Hid (∃ D2, At w0 w' p D2 ((b ++ l).take (s + (stayN keep 0 (((b ++ l).length : Int) - s)).toNat)) (s + (stayN keep 0 (((b ++ l).length : Int) - s)).toNat) false (ops + 1) 0 []) := by
  obtain ⟨T, h1, hB, hT, L⟩ := h
  have hb : Below w.heap.size w (w.alloc (.cells c 5 fr)) := (Below.refl _ w).alloc (Nat.le_refl _) _
  refine (Write_any (h1.below hb) ⟨#[97]⟩ size97 (l := l) (holds_new (alloc1 w _) hc n hn) (sep_new h1 n n) (by rw [L.ops]; exact ho1) (by rw [L.ops]; omega) (by rw [L.left]; omega)).mono ?_
  rintro e w' ⟨r, D2, rfl, hR, hA⟩
  obtain ⟨rfl, L2⟩ := live_fail L (by omega) hR
  obtain ⟨T2, h2, hB2, hT2⟩ := live_step (hB.trans (hb.mono hB.size)) hT hA
  exact ⟨rfl, D2, T2, h2, hB2, hT2, L2⟩

theorem at_sync (h : At w0 w p D b s true ops 0 keep) (ho1 : 0 ≤ ops) (ho2 : ops ≤ 1000) :
    Calls Try.prog 17 #[.pointer (some ⟨p, 0, none⟩), .string ⟨#[97]⟩] w fun r w' => r = .returned (.int .i64 0) ∧ Hid (∃ D2, At w0 w' p D2 b b.length true (ops + 1) 0 keep) := by
  obtain ⟨T, h1, hB, hT, L⟩ := h
  refine (Sync_any h1 ⟨#[97]⟩ size97 (by rw [L.ops]; exact ho1) (by rw [L.ops]; omega) (by rw [L.left]; omega)).mono ?_
  rintro e w' ⟨r, D2, rfl, hR, hA⟩
  obtain ⟨rfl, L2⟩ := live_sync L rfl hR
  obtain ⟨T2, h2, hB2, hT2⟩ := live_step hB hT hA
  exact ⟨rfl, D2, T2, h2, hB2, hT2, L2⟩

theorem at_cut (h : At w0 w p D b s true ops left keep) (l : List Int) (n : Nat) (hn : n = l.length) (c : Array Value) (hc : c.toList = i64s l) (hlen : l.length ≤ 1000) (m : Int) (hm : 0 ≤ m) :
    Calls Try.prog 18 #[.pointer (some ⟨p, 0, none⟩), .int .i64 m, .slice (some ⟨w.heap.size, 0, none⟩) n n] (w.alloc (.cells c 3)) fun r w' => r = .returned (.int .i64 0) ∧ Hid (∃ D2, At w0 w' p D2 b s true ops m l) := by
  obtain ⟨T, h1, hB, hT, L⟩ := h
  have hb : Below w.heap.size w (w.alloc (.cells c 3)) := (Below.refl _ w).alloc (Nat.le_refl _) _
  refine (Cut_any (h1.below hb) m (l := l) (holds_new64 (alloc1 w _) hc n hn) (by omega)).mono ?_
  rintro e w' ⟨r, D2, rfl, hR, hA⟩
  obtain ⟨rfl, L2⟩ := live_cut L hm hR
  obtain ⟨T2, h2, hB2, hT2⟩ := live_step (hB.trans (hb.mono hB.size)) hT hA
  exact ⟨rfl, D2, T2, h2, hB2, hT2, L2⟩

theorem at_start {on : Bool} (h : At w0 w p D b s on ops left keep) :
    Calls Try.prog 20 #[.pointer (some ⟨p, 0, none⟩)] w fun r w' => r = .returned (.tuple #[]) ∧ Hid (∃ D2, At w0 w' p D2 b s true ops left keep) := by
  obtain ⟨T, h1, hB, hT, L⟩ := h
  refine (Start_any h1).mono ?_
  rintro e w' ⟨rfl, hA⟩
  obtain ⟨T2, h2, hB2, hT2⟩ := live_step hB hT hA
  exact ⟨rfl, _, T2, h2, hB2, hT2, L.file, rfl, L.ops, L.left, L.keep⟩

theorem at_new (w : World) : Calls Try.prog 9 #[] w fun r w' => ∃ p, r = .returned (.pointer (some ⟨p, 0, none⟩)) ∧ Hid (∃ T D, DiskAt w' p T D ∧ D = emptyDV D.mb ∧ Below w.heap.size w w' ∧ (∀ k, T k ≠ none → w.heap.size ≤ k)) := by
  refine (New_any w).mono ?_
  rintro e w' ⟨p, T, D, rfl, h, hD, hB, hT⟩
  exact ⟨p, rfl, T, D, h, hD, hB, hT⟩

theorem at_create (h : ∃ T D, DiskAt w p T D ∧ D = emptyDV D.mb ∧ Below w0.heap.size w0 w ∧ (∀ k, T k ≠ none → w0.heap.size ≤ k)) :
    Calls Try.prog 15 #[.pointer (some ⟨p, 0, none⟩), .string ⟨#[97]⟩] w fun r w' => r = .returned (.int .i64 0) ∧ Hid (∃ D2, At w0 w' p D2 [] 0 true 1 0 []) := by
  obtain ⟨T, D, h1, hD, hB, hT⟩ := h
  have e3 : D.left = 0 := by rw [hD]; rfl
  have e4 : D.ops = 0 := by rw [hD]; rfl
  refine (Create_any h1 ⟨#[97]⟩ size97 (by rw [e4]; omega) (by rw [e4]; omega) (by rw [e3]; omega)).mono ?_
  rintro e w' ⟨r, D2, rfl, hR, hA⟩
  obtain ⟨rfl, L2⟩ := live_create hD hR
  obtain ⟨T2, h2, hB2, hT2⟩ := live_step hB hT hA
  exact ⟨rfl, D2, T2, h2, hB2, hT2, L2⟩

theorem at_read (h : At w0 w p D b s true ops left keep) :
    Calls Try.prog 21 #[.pointer (some ⟨p, 0, none⟩), .string ⟨#[97]⟩] w fun r w' => ∃ v, r = .returned (.tuple #[v, .int .i64 0]) ∧ Hid (w'.ownsRow w.heap.size 5 1 v b.length (u8s b)) ∧ Hid (At w0 w' p D b s true ops left keep) := by
  obtain ⟨T, h1, hB, hT, L⟩ := h
  refine (Read_any h1 ⟨#[97]⟩ size97).mono ?_
  rintro e w' ⟨v, l, rfl, hb, hrow, hc⟩
  have hz := find97 L
  obtain ⟨f, hf, hfb, _⟩ := L.file
  have hl : l = b := by
    rcases hc with ⟨g, _⟩ | ⟨_, f', g, g2⟩
    · exact absurd hz g
    · have : fileOf D.files [97] = some f' := g
      rw [hf, fileOf97] at this
      cases this
      rw [g2, hfb]
  subst hl
  refine ⟨v, ?_, hrow, T, h1.below hb, hB.trans (hb.mono hB.size), hT, L⟩
  have hz' : findE D.files D.on (⟨#[97]⟩ : ByteArray).data.toList = 0 := hz
  rw [hz']

theorem at_ops (h : At w0 w p D b s true ops left keep) : Calls Try.prog 28 #[.pointer (some ⟨p, 0, none⟩)] w fun r w' => r = .returned (.int .i64 ops) ∧ w = w' := by
  obtain ⟨T, h1, hB, hT, L⟩ := h
  refine (Ops_any h1).mono ?_
  rintro e w' ⟨rfl, rfl⟩
  exact ⟨by rw [L.ops], rfl⟩
end

theorem freeze_new (w : World) (c : Array Value) (t : TypeId) (m : Nat) : (w.alloc (.cells c t)).freeze ⟨w.heap.size, m, none⟩ 1 = w.alloc (.cells c t (m, m + 1)) := by
  unfold World.freeze
  rw [if_neg (by omega)]
  have : (w.heap.push (.cells c t)).modify w.heap.size (fun
      | .cells c elem (lo, hi) => .cells c elem (if lo == hi then (m, m + 1) else (min lo m, max hi (m + 1)))
      | o => o) = w.heap.push (.cells c t (m, m + 1)) := by
    apply Array.ext_getElem?
    intro i
    simp only [Array.getElem?_modify, Array.getElem?_push]
    by_cases h : w.heap.size = i
    · subst h; simp
    · have h' : ¬ i = w.heap.size := fun e => h e.symm
      simp [h, h']
  show ({ w with heap := _ } : World) = { w with heap := _ }
  rw [← this]
  rfl

theorem conv_new (w : World) (c : Array Value) (n m : Nat) : (convert 30 30 (.slice (some ⟨w.heap.size, 0, none⟩) n m)).run Try.prog (w.alloc (.cells c 5)) = .ok (.slice (some ⟨w.heap.size, 0, none⟩) n m) (w.alloc (.cells c 5 (c.size, c.size + 1))) := by
  have h := alloc1 w (.cells c 5)
  have hs : (w.alloc (.cells c 5)).shape? w.heap.size = some (5, c.size) := by unfold World.shape?; rw [h]
  simp [convert, run_underlying Try.underlying30, run_underlying Try.underlying5, markStringish, hs, freeze_new]

theorem str_of_row {w : World} {base : Nat} {v : Value} {l : List UInt8} (h : w.ownsRow base 5 1 v l.length (u8s l)) : (convert 30 9 v).run Try.prog w = .ok (.string ⟨l.toArray⟩) w := by
  rcases h.2 with ⟨rfl, h2⟩ | ⟨g, cap, cur, rfl, hb, hg, h2, h3, h4, h5⟩
  · have : l = [] := List.eq_nil_of_length_eq_zero h2
    subst this
    exact run_convert_bytes_nil w _ _ Try.underlying30 Try.underlying5 0 0 _ Try.underlying9
  · have hr := run_convert_bytes_arg (P := Try.prog) w 30 5 Try.underlying30 Try.underlying5 g 0 l.length cap (l.map fun c => (c.toNat : Int)) (by simp) (fun i hi => by
      rw [Nat.zero_add]
      refine row_cell h (k := i) ?_
      unfold u8s
      rw [List.getElem?_map, List.getElem?_eq_getElem hi, List.getD_eq_getElem?_getD, List.getElem?_map, List.getElem?_eq_getElem hi]
      rfl) 9 Try.underlying9
    rw [hr]
    congr 2
    unfold strOfNums
    congr 2
    rw [List.map_map]
    conv => rhs; rw [← List.map_id l]
    apply List.map_congr_left
    intro c _
    simp

set_option maxHeartbeats 1600000 in
theorem lives_any (w : World) : Calls Try.prog 12 #[] w fun r w' => r = .returned (.bool true) ∧ Below w.heap.size w w' := by
  have hcv := conv_new
  go_enter Try.func12, Try.ntmps12
  go_wp2_with fail
  refine (at_new w).mono ?_
  rintro e w1 ⟨p, rfl, X1⟩
  go_wp2_with fail
  refine (at_create X1.out).mono ?_
  rintro e w2 ⟨rfl, X2⟩
  clear X1
  obtain ⟨D2, X2⟩ := X2.out
  have X2 := Lib.hid X2
  go_wp2_with fail
  refine (at_write X2.out [120, 121, 122] 3 rfl _ _ rfl (by simp) (by omega) (by omega)).mono ?_
  rintro e w3 ⟨rfl, X3⟩
  obtain ⟨D3, X3⟩ := X3.out
  have X3 := Lib.hid X3
  go_wp2_with fail
  refine (at_sync X3.out (by omega) (by omega)).mono ?_
  rintro e w4 ⟨rfl, X4⟩
  obtain ⟨D4, X4⟩ := X4.out
  have X4 := Lib.hid X4
  go_wp2_with fail
  refine (at_write X4.out [112, 113] 2 rfl _ _ rfl (by simp) (by omega) (by omega)).mono ?_
  rintro e w5 ⟨rfl, X5⟩
  obtain ⟨D5, X5⟩ := X5.out
  have X5 := Lib.hid X5
  go_wp2_with fail
  refine (at_cut X5.out [1] 1 rfl _ rfl (by simp) 1 (by omega)).mono ?_
  rintro e w6 ⟨rfl, X6⟩
  obtain ⟨D6, X6⟩ := X6.out
  have X6 := Lib.hid X6
  go_wp2_with fail
  refine (at_fail X6.out [114] 1 rfl _ _ rfl (by simp) (by omega) (by omega)).mono ?_
  rintro e w7 ⟨rfl, X7⟩
  obtain ⟨D7, X7⟩ := X7.out
  have X7 := Lib.hid X7
  go_wp2_with fail
  refine (at_start X7.out).mono ?_
  rintro e w8 ⟨rfl, X8⟩
  obtain ⟨D8, X8⟩ := X8.out
  have X8 : Hid (At w w8 p D8 [120, 121, 122, 112] 4 true 5 0 []) := X8
  go_wp2_with fail
  refine (at_read X8.out).mono ?_
  rintro e w9 ⟨v, rfl, HR, X9⟩
  clear X2 X3 X4 X5 X6 X7 X8
  have hst := str_of_row HR.out
  go_wp2_with fail
  refine (at_ops X9.out).mono ?_
  rintro e w' ⟨rfl, rfl⟩
  go_wp2
  go_ret
  obtain ⟨T, _, hB, _⟩ := X9.out
  exact ⟨rfl, hB⟩
end Go.Proofs.Ytddhhgbbeeeieaa
