/- What a disk of package vfs is in memory: its struct, its map, its files, and the blocks that it owns. Conditions: none. -/
import Derived.Test.YtddhhgbbeeeieaaVfsGood
import Derived.Maps.OwnSet
import Derived.Maps.Ext
import Derived.Sort.KeysCollected
import Derived.OneCell
namespace Go.Proofs.Ytddhhgbbeeeieaa
open Go.RowKit Go.Maps Go.Sort

/-- Only blocks in S (of those that were there) may have changed. -/
structure Kept (S : Nat → Prop) (w w' : World) : Prop where
  os : w'.os = w.os
  tape : w'.tape = w.tape
  output : w'.output = w.output
  size : w.heap.size ≤ w'.heap.size
  block : ∀ k, k < w.heap.size → ¬ S k → w'.heap[k]? = w.heap[k]?

theorem Kept.refl (S : Nat → Prop) (w : World) : Kept S w w := ⟨rfl, rfl, rfl, Nat.le_refl _, fun _ _ _ => rfl⟩
theorem Kept.trans {S S' : Nat → Prop} {a b c : World} (h : Kept S a b) (k : Kept S' b c) (hS : ∀ x, S' x → S x ∨ a.heap.size ≤ x) : Kept S a c :=
  ⟨k.os.trans h.os, k.tape.trans h.tape, k.output.trans h.output, Nat.le_trans h.size k.size, fun i hi hn => (k.block i (Nat.lt_of_lt_of_le hi h.size) (fun hx => by rcases hS i hx with g | g; exact hn g; omega)).trans (h.block i hi hn)⟩
theorem Kept.alloc {S : Nat → Prop} {a w : World} (h : Kept S a w) (o : Obj) : Kept S a (w.alloc o) :=
  h.trans (S' := fun _ => False) ⟨rfl, rfl, rfl, by simp, fun k hk _ => Below.heap_alloc _ _ _ hk⟩ (fun _ hx => hx.elim)
theorem Kept.setCell {S : Nat → Prop} {a w : World} (h : Kept S a w) {p : Addr} (hp : S p.block ∨ a.heap.size ≤ p.block) (u : Value) : Kept S a (w.setCell p u) :=
  h.trans (S' := fun x => x = p.block) ⟨rfl, rfl, rfl, by simp [World.setCell], fun k _ hk => Below.heap_setCell _ _ _ _ hk⟩ (fun x hx => by subst hx; exact hp)
theorem Kept.drew {S : Nat → Prop} {a w : World} (h : Kept S a w) : Kept S a w.drew := ⟨h.os, h.tape, h.output, h.size, h.block⟩
theorem Kept.drewN {S : Nat → Prop} {a w : World} (h : Kept S a w) (n : Nat) : Kept S a (w.drewN n) := ⟨h.os, h.tape, h.output, h.size, h.block⟩
theorem Kept.of_below {S : Nat → Prop} {w w' : World} (h : Below w.heap.size w w') : Kept S w w' := ⟨h.os, h.tape, h.output, h.size, fun k hk _ => h.block k hk⟩
theorem Kept.of_grown {w w' : World} {row : Option Nat} (h : w.grownBy w' row) : Kept (fun k => row = some k) w w' := ⟨h.os, h.tape, h.output, h.size, fun k hk hn => h.block k hk (fun e => hn e.symm)⟩
theorem Kept.mono {S S' : Nat → Prop} {w w' : World} (h : Kept S w w') (hS : ∀ x, S x → S' x) : Kept S' w w' := ⟨h.os, h.tape, h.output, h.size, fun k hk hn => h.block k hk (fun hx => hn (hS k hx))⟩
theorem Kept.below {S : Nat → Prop} {w w' : World} {B : Nat} (h : Kept S w w') (hB : B ≤ w.heap.size) (hS : ∀ x, S x → B ≤ x) : Below B w w' :=
  ⟨h.os, h.tape, h.output, h.size, fun k hk => h.block k (by omega) (fun hx => by have := hS k hx; omega)⟩

theorem ownsMap_of_block {H : Type} {P : Program} {k : TypeId} {R : Value → Option (DataW H × List MemPlace)} {b n : Nat} {D : DataW H} {w w' : World} (h : w.ownsMap P k R b n D) (hb : w'.heap[b]? = w.heap[b]?) : w'.ownsMap P k R b n D := by
  obtain ⟨es, clock, h1, r⟩ := h
  exact ⟨es, clock, hb.trans h1, r⟩
theorem ownsRow_of_block {base : Nat} {e : TypeId} {size : Nat} {v : Value} {n : Nat} {xs : List Value} {w w' : World} (h : w.ownsRow base e size v n xs) (hb : ∀ g, v.ownBlock = some g → w'.heap[g]? = w.heap[g]?) : w'.ownsRow base e size v n xs := by
  refine ⟨h.1, ?_⟩
  rcases h.2 with h2 | ⟨g, cap, cur, rfl, hg, hh, r⟩
  · exact .inl h2
  · exact .inr ⟨g, cap, cur, rfl, hg, by rw [hb g rfl]; exact hh, r⟩
theorem ownsMap_tight {H : Type} {P : Program} {k : TypeId} {R : Value → Option (DataW H × List MemPlace)} {b n : Nat} {D : DataW H} {w : World} (h : w.ownsMap P k R b n D) : w.ownsMap P k R b (Maps.size D) D := by
  obtain ⟨es, clock, h1, F, hs, rfl⟩ := h
  exact ⟨es, clock, h1, F, by simp [Maps.size, length_sorted], rfl⟩

def u8s (l : List UInt8) : List Value := l.map fun c => .int .u8 (c.toNat : Int)
def i64s (l : List Int) : List Value := l.map fun n => .int .i64 n

structure FileC where
  blk : Nat
  sl : Value
  bytes : List UInt8
  synced : Nat

structure FileC.At (w : World) (f : FileC) : Prop where
  blk : w.heap[f.blk]? = some (.cells #[f.sl, .int .i64 (f.synced : Int)] 80 (0, 0))
  row : w.ownsRow 0 5 1 f.sl f.bytes.length (u8s f.bytes)
  sync : f.synced ≤ f.bytes.length
  max : f.bytes.length ≤ 1048576

structure DV where
  mb : Nat
  files : List (List UInt8 × FileC)
  on : Bool
  ops : Int
  left : Int
  ks : Value
  keep : List Int

def ptrR : Value → Option (DataW Unit × List MemPlace)
  | .pointer none => some (.nil, [])
  | .pointer (some ⟨b, 0, none⟩) => some (.lit (.int .u64 b), [])
  | _ => none

def ptrD (f : FileC) : DataW Unit := .lit (.int .u64 (f.blk : Int))
def mapD (L : List (List UInt8 × FileC)) : DataW Unit := .map (L.map fun p => (.string p.1, ptrD p.2))

structure DiskAt (w : World) (p : Nat) (T : Nat → Option (Nat × Nat)) (D : DV) : Prop where
  disk : w.heap[p]? = some (.cells #[.map (some D.mb), .bool D.on, .int .i64 D.ops, .int .i64 D.left, D.ks] 52 (0, 0))
  map : w.ownsMap Try.prog 9 ptrR D.mb D.files.length (mapD D.files)
  files : ∀ k f, (k, f) ∈ D.files → f.At w
  keep : w.ownsRow 0 3 1 D.ks D.keep.length (i64s D.keep)
  sorted : D.files.Pairwise (fun a b => bytesBefore a.1 b.1 = true)
  blks : D.files.Pairwise (fun a b => a.2.blk ≠ b.2.blk)
  good : ∀ k f, (k, f) ∈ D.files → goodL k = true
  room : D.files.length ≤ 64
  tp : T p = some (0, 0)
  tm : T D.mb = some (1, 0)
  tf : ∀ k f, (k, f) ∈ D.files → T f.blk = some (2, 0)
  ts : ∀ k f b, (k, f) ∈ D.files → f.sl.ownBlock = some b → T b = some (3, f.blk)
  tk : ∀ b, D.ks.ownBlock = some b → T b = some (4, 0)
  bound : ∀ k, T k ≠ none → k < w.heap.size

/-- the blocks that are tagged -/
def In (T : Nat → Option (Nat × Nat)) (k : Nat) : Prop := T k ≠ none

theorem DiskAt.move {w w' : World} {p : Nat} {T : Nat → Option (Nat × Nat)} {D : DV} (h : DiskAt w p T D) (hk : ∀ k, T k ≠ none → w'.heap[k]? = w.heap[k]?) (hs : w.heap.size ≤ w'.heap.size) : DiskAt w' p T D where
  disk := (hk p (by rw [h.tp]; simp)).trans h.disk
  map := ownsMap_of_block h.map (hk _ (by rw [h.tm]; simp))
  files := fun k f hf => ⟨(hk _ (by rw [h.tf k f hf]; simp)).trans (h.files k f hf).blk, ownsRow_of_block (h.files k f hf).row (fun g hg => hk g (by rw [h.ts k f g hf hg]; simp)), (h.files k f hf).sync, (h.files k f hf).max⟩
  keep := ownsRow_of_block h.keep (fun g hg => hk g (by rw [h.tk g hg]; simp))
  sorted := h.sorted
  blks := h.blks
  good := h.good
  room := h.room
  tp := h.tp
  tm := h.tm
  tf := h.tf
  ts := h.ts
  tk := h.tk
  bound := fun k hn => Nat.lt_of_lt_of_le (h.bound k hn) hs

theorem DiskAt.kept {w w' : World} {p : Nat} {T : Nat → Option (Nat × Nat)} {D : DV} {S : Nat → Prop} (h : DiskAt w p T D) (hk : Kept S w w') (hS : ∀ k, S k → T k = none) : DiskAt w' p T D :=
  h.move (fun k hn => hk.block k (h.bound k hn) (fun hs => hn (hS k hs))) hk.size
theorem DiskAt.below {w w' : World} {p : Nat} {T : Nat → Option (Nat × Nat)} {D : DV} (h : DiskAt w p T D) (hk : Below w.heap.size w w') : DiskAt w' p T D :=
  h.move (fun k hn => hk.block k (h.bound k hn)) hk.size

theorem DiskAt.cell {w : World} {p : Nat} {T : Nat → Option (Nat × Nat)} {D : DV} (h : DiskAt w p T D) :
    w.cell? ⟨p, 0, none⟩ = some (.map (some D.mb)) ∧ w.cell? ⟨p, 1, none⟩ = some (.bool D.on) ∧ w.cell? ⟨p, 2, none⟩ = some (.int .i64 D.ops) ∧ w.cell? ⟨p, 3, none⟩ = some (.int .i64 D.left) ∧ w.cell? ⟨p, 4, none⟩ = some D.ks := by
  refine ⟨?_, ?_, ?_, ?_, ?_⟩ <;> (rw [cell_of_row w p _ _ _ _ h.disk]; rfl)
theorem free_of_row {w : World} {g : Nat} {cs : Array Value} {t : TypeId} (h : w.heap[g]? = some (.cells cs t (0, 0))) (j : Nat) : w.frozen? ⟨g, j, none⟩ = false := by
  simp [World.frozen?, h]
theorem DiskAt.free {w : World} {p : Nat} {T : Nat → Option (Nat × Nat)} {D : DV} (h : DiskAt w p T D) (j : Nat) : w.frozen? ⟨p, j, none⟩ = false := free_of_row h.disk j
theorem FileC.At.cell {w : World} {f : FileC} (h : f.At w) : w.cell? ⟨f.blk, 0, none⟩ = some f.sl ∧ w.cell? ⟨f.blk, 1, none⟩ = some (.int .i64 (f.synced : Int)) := by
  refine ⟨?_, ?_⟩ <;> (rw [cell_of_row w _ _ _ _ _ h.blk]; rfl)
theorem FileC.At.free {w : World} {f : FileC} (h : f.At w) (j : Nat) : w.frozen? ⟨f.blk, j, none⟩ = false := free_of_row h.blk j

/-- the file of a name -/
def fileOf (L : List (List UInt8 × FileC)) (k : List UInt8) : Option FileC := (L.find? fun p => p.1 == k).map (·.2)

theorem fileOf_mem {L : List (List UInt8 × FileC)} {k : List UInt8} {f : FileC} (h : fileOf L k = some f) : (k, f) ∈ L := by
  unfold fileOf at h
  rw [Option.map_eq_some_iff] at h
  obtain ⟨q, hq, rfl⟩ := h
  have h1 := List.find?_some hq
  have h2 := List.mem_of_find?_eq_some hq
  simp only [beq_iff_eq] at h1
  rw [← h1]; exact h2

theorem atKey_mapD (L : List (List UInt8 × FileC)) (k : List UInt8) : (mapD L).atKey (.string k) .nil = ((fileOf L k).map ptrD).getD .nil := by
  induction L with
  | nil => rfl
  | cons q r ih =>
    simp only [mapD, DataW.atKey, List.map_cons, List.find?_cons, Lit.sameKey, fileOf] at ih ⊢
    by_cases h : q.1 == k
    · simp [h]
    · simp only [h] at ih ⊢
      exact ih

theorem ptrR_nil {v : Value} {ps : List MemPlace} (h : ptrR v = some (.nil, ps)) : v = .pointer none := by
  unfold ptrR at h
  split at h
  · rfl
  · simp at h
  · cases h
theorem ptrR_lit {v : Value} {ps : List MemPlace} {b : Nat} (h : ptrR v = some (.lit (.int .u64 (b : Int)), ps)) : v = .pointer (some ⟨b, 0, none⟩) := by
  unfold ptrR at h
  split at h
  · simp at h
  · simp only [Option.some.injEq, Prod.mk.injEq, DataW.lit.injEq, Lit.int.injEq, true_and] at h
    have : ‹Nat› = b := by omega
    simp_all
  · cases h

/-- what a look-up answers -/
def ptrA (o : Option FileC) : Option Addr := o.map fun f => ⟨f.blk, 0, none⟩
def ptrV (o : Option FileC) : Value := .pointer (ptrA o)

theorem zero76 (w : World) : (zeroValue 76).run Try.prog w = .ok (.pointer none) w := by kernel_rfl

theorem DiskAt.look {w : World} {p : Nat} {T : Nat → Option (Nat × Nat)} {D : DV} (h : DiskAt w p T D) {s : ByteArray} (hs : s.size ≤ maxLen) (n : Nat) :
    (Instr.lookup 50 (.map (some D.mb)) (.string s) false).run Try.prog (w.drewN n) = .ok (ptrV (fileOf D.files s.data.toList)) (w.drewN n) := by
  have hm : (w.drewN n).ownsMap Try.prog 9 ptrR D.mb D.files.length (mapD D.files) := h.map
  obtain ⟨v, ps, hrun, hv⟩ := hm.lookup (string_keyed Try.underlying9) Try.underlying50 (zero76 _) (zd := .nil) (zp := []) rfl (WideMaps.keyOf_string_mk (P := Try.prog) Try.underlying9 hs)
  rw [atKey_mapD] at hv
  have e : v = ptrV (fileOf D.files s.data.toList) := by
    cases hf : fileOf D.files s.data.toList with
    | none => rw [hf] at hv; exact ptrR_nil hv
    | some f => rw [hf] at hv; exact ptrR_lit hv
  rw [← e]
  exact hrun
end Go.Proofs.Ytddhhgbbeeeieaa
