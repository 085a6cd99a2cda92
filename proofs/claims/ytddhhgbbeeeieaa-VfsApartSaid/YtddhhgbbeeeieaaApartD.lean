/- What VfsApart asks of the disk ahead of its rounds, in them and behind them. Conditions: a disk that was made. -/
import Derived.Test.YtddhhgbbeeeieaaApartC
import Derived.Test.YtddhhgbbeeeieaaVfsOne
import Derived.Test.YtddhhgbbeeeieaaVfsMoves
set_option maxRecDepth 100000
namespace Go.Proofs.Ytddhhgbbeeeieaa
open Go.RowKit Go.Maps Go.Sort

section
variable {w0 w : World} {p q : Nat} {nm dat : List UInt8} {lo hi o n m kd : Int} {t : ByteArray} {dv kv : Value} {X : List (Nat × Obj)} (s : ByteArray)

theorem act_any (ho1 : 0 ≤ o) (ho2 : o ≤ 100000) (hkd : kd < 5) (hs : s.size ≤ maxLen) (ht : t.size ≤ maxLen) (hn : s.data.toList ≠ nm) (htn : t.data.toList ≠ nm) {a : Option Addr} {c : Nat} {l : List UInt8} (hd : Holds8 w0 (.slice a l.length c) l) (hl : l.length ≤ 100000) (h : StA w0 p nm dat o o [(q, refO)] w) :
    Calls Try.prog 10 #[.pointer (some ⟨p, 0, none⟩), .pointer (some ⟨q, 0, none⟩), .agg #[.int .i64 kd, .string s, .string t, .int .i64 n, .int .i64 m, .slice a l.length c, kv]] w fun e w' => IsB e ∧ Hid (StA w0 p nm dat o (o + 1) [] w') := by
  rcases (by omega : kd < 0 ∨ kd = 0 ∨ kd = 1 ∨ kd = 2 ∨ kd = 3 ∨ kd = 4) with g | rfl | rfl | rfl | rfl | rfl
  · exact act_low s g h
  · exact act_create ho1 ho2 s hs hn h
  · exact act_write s ho1 ho2 hs hn hd hl h
  · exact act_sync ho1 ho2 s hs hn h
  · exact act_rename ho1 ho2 s hs hn ht htn h
  · exact act_remove ho1 ho2 s hs hn h

theorem stA_of_one {D : DV} {keep : List Int} (h : OneAt nm w0 w p D dat 0 true 2 0 keep) : StA w0 p nm dat 2 2 [] w := by
  obtain ⟨T, h1, h2, h3, h4⟩ := h
  obtain ⟨f, hf, hb, hs⟩ := h4.file
  exact ⟨T, D, h1, h2, h3, ⟨h4.on, h4.left, by rw [h4.ops]; omega, by rw [h4.ops]; omega, f, by rw [hf, fileOf_one], hb, hs⟩, fun x hx => by cases hx⟩
theorem stA_exact (h : StA w0 p nm dat o (o + 1) X w) : ∃ o', o ≤ o' ∧ o' ≤ o + 1 ∧ StA w0 p nm dat o' o' X w := by
  obtain ⟨T, D, h1, h2, h3, h4, h5⟩ := h
  exact ⟨D.ops, h4.low, h4.high, T, D, h1, h2, h3, ⟨h4.on, h4.left, Int.le_refl _, Int.le_refl _, h4.file⟩, h5⟩
theorem stA_ops (h : StA w0 p nm dat o o X w) : Calls Try.prog 28 #[.pointer (some ⟨p, 0, none⟩)] w fun r w' => r = .returned (.int .i64 o) ∧ w = w' := by
  obtain ⟨T, D, h1, h2, h3, h4, h5⟩ := h
  have e : D.ops = o := by have := h4.low; have := h4.high; omega
  rw [← e]
  exact Ops_any h1
theorem still_find {D : DV} (h : Still nm dat lo hi D) (hg : goodL nm = true) : findE D.files D.on nm = 0 := by
  obtain ⟨f, hf, _⟩ := h.file
  unfold findE
  rw [h.on, ready_mk1 hg, hf]; rfl
theorem stA_read (hs : s.size ≤ maxLen) (hnm : nm = s.data.toList) (hg : goodL nm = true) (h : StA w0 p nm dat lo hi X w) :
    Calls Try.prog 21 #[.pointer (some ⟨p, 0, none⟩), .string s] w fun r w' => ∃ v, r = .returned (.tuple #[v, .int .i64 0]) ∧ Hid (Holds8 w' v dat) ∧ Hid (StA w0 p nm dat lo hi X w') := by
  have h' := h
  obtain ⟨T, D, h1, h2, h3, h4, h5⟩ := h
  refine (Read_any h1 s hs).mono ?_
  rintro e w' ⟨v, l, rfl, hb, hrow, hc⟩
  have hz := still_find h4 hg
  rw [hnm] at hz
  obtain ⟨f, hf, hfb, _⟩ := h4.file
  have hl : l = dat := by
    rcases hc with ⟨g, _⟩ | ⟨_, f', g, g2⟩
    · exact absurd hz g
    · have : fileOf D.files s.data.toList = some f' := g
      rw [← hnm, hf] at this
      cases this
      rw [g2, hfb]
  subst hl
  rw [hz]
  exact ⟨v, rfl, holds8_of_row hrow, h'.below hb⟩
theorem stA_pending (hs : s.size ≤ maxLen) (hnm : nm = s.data.toList) (hg : goodL nm = true) (h : StA w0 p nm dat lo hi X w) :
    Calls Try.prog 25 #[.pointer (some ⟨p, 0, none⟩), .string s] w fun r w' => r = .returned (.tuple #[.int .i64 (dat.length : Int), .int .i64 0]) ∧ Hid (Below w.heap.size w w') ∧ Hid (StA w0 p nm dat lo hi X w') := by
  have h' := h
  obtain ⟨T, D, h1, h2, h3, h4, h5⟩ := h
  refine (Pending_any h1 s hs).mono ?_
  rintro e w' ⟨n, rfl, hb, hc⟩
  have hz := still_find h4 hg
  rw [hnm] at hz
  obtain ⟨f, hf, hfb, hfs⟩ := h4.file
  have hn : n = dat.length := by
    rcases hc with ⟨g, _⟩ | ⟨_, f', g, g2⟩
    · exact absurd hz g
    · rw [← hnm, hf] at g
      cases g
      rw [g2, hfb, hfs]; simp
  subst hn
  rw [hz]
  exact ⟨rfl, hb, h'.below hb⟩
theorem create_some (hs : s.size ≤ maxLen) (h : ∃ T D, DiskAt w p T D ∧ D = emptyDV D.mb ∧ Below w0.heap.size w0 w ∧ (∀ k, T k ≠ none → w0.heap.size ≤ k)) :
    Calls Try.prog 15 #[.pointer (some ⟨p, 0, none⟩), .string s] w fun r w' => ∃ e : Int, r = .returned (.int .i64 e) ∧ Hid (Below w0.heap.size w0 w') := by
  obtain ⟨T, D, h1, hD, hB, hT⟩ := h
  have e3 : D.left = 0 := by rw [hD]; rfl
  have e4 : D.ops = 0 := by rw [hD]; rfl
  refine (Create_any h1 s hs (by rw [e4]; omega) (by rw [e4]; omega) (by rw [e3]; omega)).mono ?_
  rintro e w' ⟨r, D2, rfl, hR, hA⟩
  obtain ⟨T2, h2, hB2, hT2⟩ := live_step hB hT hA
  exact ⟨r, rfl, hB2⟩
end
end Go.Proofs.Ytddhhgbbeeeieaa
