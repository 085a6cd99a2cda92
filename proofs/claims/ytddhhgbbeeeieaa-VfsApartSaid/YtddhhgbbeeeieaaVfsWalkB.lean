/- Contracts of vfs: New, put, pending, Start, On, Ops, and what an empty disk is. Conditions: a disk that was made. -/
import Derived.Test.YtddhhgbbeeeieaaVfsWalkA
import Derived.Test.YtddhhgbbeeeieaaShelf
import Derived.Deep.RegionWith
import Derived.Deep.DeepFit
set_option maxRecDepth 100000
namespace Go.Proofs.Ytddhhgbbeeeieaa
open Go.RowKit Go.Maps Go.Sort

def emptyDV (mb : Nat) : DV := { mb := mb, files := [], on := true, ops := 0, left := 0, ks := .slice none 0 0, keep := [] }
def newT (mb p : Nat) : Nat → Option (Nat × Nat) := fun k => if k = p then some (0, 0) else if k = mb then some (1, 0) else none

theorem heap_new (w : World) (o : Obj) : (w.alloc o).heap[w.heap.size]? = some o := heap_alloc_new w o
theorem heap_old (w : World) (o : Obj) (k : Nat) (h : k < w.heap.size) : (w.alloc o).heap[k]? = w.heap[k]? := Below.heap_alloc w o k h

theorem empty_at (w : World) : DiskAt ((w.alloc (.map #[] 0)).alloc (.cells #[.map (some w.heap.size), .bool true, .int .i64 0, .int .i64 0, .slice none 0 0] 52)) (w.heap.size + 1) (newT w.heap.size (w.heap.size + 1)) (emptyDV w.heap.size) where
  disk := by
    have h := heap_new (w.alloc (.map #[] 0)) (.cells #[.map (some w.heap.size), .bool true, .int .i64 0, .int .i64 0, .slice none 0 0] 52)
    have e : (w.alloc (.map #[] 0)).heap.size = w.heap.size + 1 := by simp
    rw [e] at h
    exact h
  map := (World.ownsMap_made w Try.prog 9 ptrR).alloc _
  files := fun k f h => by simp [emptyDV] at h
  keep := World.ownsRow_nil _ _ _ _
  sorted := List.Pairwise.nil
  blks := List.Pairwise.nil
  good := fun k f h => by simp [emptyDV] at h
  room := by simp [emptyDV]
  tp := by simp [newT]
  tm := by simp [newT, emptyDV]
  tf := fun k f h => by simp [emptyDV] at h
  ts := fun k f b h => by simp [emptyDV] at h
  tk := fun b h => by simp [emptyDV, Value.ownBlock] at h
  bound := fun k h => by
    have : k = w.heap.size + 1 ∨ k = w.heap.size := by
      unfold newT at h
      by_cases h1 : k = w.heap.size + 1
      · exact .inl h1
      · by_cases h2 : k = w.heap.size
        · exact .inr h2
        · rw [if_neg h1, if_neg h2] at h; exact absurd rfl h
    simp
    omega

set_option maxHeartbeats 400000 in
theorem New_any (w : World) : Calls Try.prog 9 #[] w fun e w' => ∃ p T D, e = .returned (.pointer (some ⟨p, 0, none⟩)) ∧ DiskAt w' p T D ∧ D = emptyDV D.mb ∧ Below w.heap.size w w' ∧ (∀ k, T k ≠ none → w.heap.size ≤ k) := by
  have hmm := @run_makeMap Try.prog
  go_enter Try.func9, Try.ntmps9
  go_wp2
  go_ret
  exact ⟨_, _, _, rfl, empty_at w, rfl, ((Below.refl _ w).alloc (Nat.le_refl _) _).alloc (by simp) _, fun k h => by
    unfold newT at h
    by_cases h1 : k = w.heap.size + 1
    · omega
    · by_cases h2 : k = w.heap.size
      · omega
      · rw [if_neg h1, if_neg h2] at h; exact absurd rfl h⟩

set_option maxHeartbeats 400000 in
theorem Clone_any (s : ByteArray) (w : World) (hs : s.size ≤ 281474976710656) : Calls Try.prog 63 #[.string s] w fun e w' => e = .returned (.string s) ∧ Below w.heap.size w w' := by
  go_enter Try.func63, Try.ntmps63
  go_wp2_with (go_at_call 68; refine (Try.stringslite_Clone s _ hs).mono ?_; rintro e w1 ⟨rfl, hb⟩)
  go_ret
  exact ⟨rfl, hb⟩

theorem put_store {w w1 : World} {mb n b B : Nat} {M : DataW Unit} (hown : w.ownsMap Try.prog 9 ptrR mb n M) (hn : n ≤ 1000) (s : ByteArray) (hs : s.size ≤ 281474976710656) (hb : Below B w.drew w1) (hB : B = w.heap.size) :
    ∃ w2, (Instr.mapUpdate 50 (.map (some mb)) (.string s) (.pointer (some ⟨b, 0, none⟩))).run Try.prog w1 = .ok () w2 ∧
      Hid (w2.ownsMap Try.prog 9 ptrR mb (n + 1) (M.put (.string s.data.toList) (.lit (.int .u64 (b : Int))))) ∧ Hid (Kept (fun k => k = mb) w w2) := by
  subst hB
  have h1 : w1.ownsMap Try.prog 9 ptrR mb n M := ownsMap_of_block hown (hb.block _ hown.lt)
  obtain ⟨w2, hrun, ho2, ht⟩ := h1.store (string_keyed Try.underlying9) Try.underlying50 (by unfold maxLen; omega) (key := .string s) (val := .pointer (some ⟨b, 0, none⟩)) (WideMaps.keyOf_string_mk (P := Try.prog) Try.underlying9 (by unfold maxLen; omega)) rfl
  refine ⟨w2, hrun, ho2, ?_⟩
  have k1 : Kept (fun k => k = mb) w w1 := ⟨hb.os, hb.tape, hb.output, hb.size, fun k hk _ => hb.block k hk⟩
  exact k1.trans (Kept.of_grown ht.grown) (fun x hx => .inl (by simpa using hx.symm))

set_option maxHeartbeats 800000 in
theorem put_any {w : World} {p mb n b : Nat} {M : DataW Unit} (hc : w.cell? ⟨p, 0, none⟩ = some (.map (some mb))) (hown : w.ownsMap Try.prog 9 ptrR mb n M) (hn : n ≤ 1000) (s : ByteArray) (hs : s.size ≤ 281474976710656) :
    Calls Try.prog 46 #[.pointer (some ⟨p, 0, none⟩), .string s, .pointer (some ⟨b, 0, none⟩)] w fun e w' =>
      e = .returned (.tuple #[]) ∧ w'.ownsMap Try.prog 9 ptrR mb (n + 1) (M.put (.string s.data.toList) (.lit (.int .u64 (b : Int)))) ∧ Kept (fun k => k = mb) w w' := by
  go_enter Try.func46, Try.ntmps46
  go_wp2_with fail
  have HO := Lib.hid hown
  clear hown
  go_region_with (go_at_call 63; refine (Clone_any s _ hs).mono ?_; rintro e w1 ⟨rfl, hb⟩; have hc1 := (hb.cell (p := ⟨p, 0, none⟩) (World.block_lt_of_cell? w _ hc)).trans hc; obtain ⟨w2, hrun, ho2, ht⟩ := put_store (b := b) HO.out hn s hs hb rfl)
  all_goals
    go_end0
    exact ⟨rfl, ho2, ht⟩
end Go.Proofs.Ytddhhgbbeeeieaa
