/- VfsMoves holds: a file that is renamed has its bytes, and the name that it had is nobody's. Conditions: none. -/
import Derived.Test.YtddhhgbbeeeieaaVfsRename
import Derived.Test.YtddhhgbbeeeieaaVfsKeeps
set_option maxRecDepth 100000
namespace Go.Proofs.Ytddhhgbbeeeieaa
open Go.ChangeShapes Go.WideShapes Go.ChangeAt Go.RowKit Go.Maps Go.Sort
open Go.ChangeMaps (open_string shut_string)

theorem one_rename {nm to : List UInt8} (h2 : readyE true [nm, to] = 0) {D D2 : DV} {e : Int} {b : List UInt8} {s : Nat} {ops left : Int} {keep : List Int} (h : One nm D b s true ops left keep) (hl : left = 0) (hw : RenameP D nm to e D2) : e = 0 ∧ One to D2 b s true (ops + 1) 0 keep := by
  obtain ⟨f, hf, hb, hs⟩ := h.file
  have hr : readyE D.on [nm, to] = 0 := by rw [h.on]; exact h2
  rcases hw with ⟨g, _⟩ | ⟨_, g, _⟩ | ⟨_, f', g, g2⟩
  · exact absurd hr g
  · rw [hf, fileOf_one nm] at g; cases g
  · rw [hf, fileOf_one nm] at g
    cases g
    rcases g2 with ⟨_, rfl, rfl⟩ | ⟨g2, _⟩ | ⟨g2, _⟩
    · refine ⟨rfl, ⟨f, ?_, hb, hs⟩, h.on, ?_, ?_, h.keep⟩
      · show putL to f (dropL nm D.files) = _
        rw [hf]
        have : dropL nm [(nm, f)] = [] := by simp [dropL]
        rw [this]; rfl
      · show D.ops + 1 = _
        rw [h.ops]
      · show (if 0 < D.left then D.left - 1 else D.left) = 0
        rw [h.left, hl]; rfl
    · rw [h.left, hl] at g2; omega
    · rw [h.left, hl] at g2; omega

theorem ready_mk {k t : List UInt8} (hk : goodL k = true) (ht : goodL t = true) : readyE true [k, t] = 0 := by unfold readyE; simp [hk, ht]
theorem ready_mk1 {k : List UInt8} (hk : goodL k = true) : readyE true [k] = 0 := by unfold readyE; simp [hk]

section
variable {s t : ByteArray} {w0 w : World} {p : Nat} {D : DV} {b : List UInt8} {sy : Nat} {ops left : Int} {keep : List Int}

theorem onat_rename (hs : s.size ≤ maxLen) (ht : t.size ≤ maxLen) (h2 : readyE true [s.data.toList, t.data.toList] = 0) (h : OneAt s.data.toList w0 w p D b sy true ops 0 keep) (ho1 : 0 ≤ ops) (ho2 : ops ≤ 1000) :
    Calls Try.prog 23 #[.pointer (some ⟨p, 0, none⟩), .string s, .string t] w fun r w' => r = .returned (.int .i64 0) ∧ Hid (∃ D2, OneAt t.data.toList w0 w' p D2 b sy true (ops + 1) 0 keep) := by
  obtain ⟨T, h1, hB, hT, L⟩ := h
  refine (Rename_any h1 s t hs ht (by rw [L.ops]; exact ho1) (by rw [L.ops]; omega) (by rw [L.left]; omega)).mono ?_
  rintro e w' ⟨r, D2, rfl, hR, hA⟩
  obtain ⟨rfl, L2⟩ := one_rename h2 L rfl hR
  obtain ⟨T2, h2, hB2, hT2⟩ := live_step hB hT hA
  exact ⟨rfl, D2, T2, h2, hB2, hT2, L2⟩

theorem onat_list {nm : List UInt8} {on : Bool} (h : OneAt nm w0 w p D b sy on ops left keep) :
    Calls Try.prog 24 #[.pointer (some ⟨p, 0, none⟩)] w fun r w' => ∃ a c, r = .returned (.slice a 1 c) ∧ Hid (Below w.heap.size w w') := by
  obtain ⟨T, h1, hB, hT, L⟩ := h
  obtain ⟨f, hf, _⟩ := L.file
  refine (List_any h1).mono ?_
  rintro e w' ⟨v, rfl, hrow, hb⟩
  obtain ⟨a, c, rfl, _, _⟩ := ownsRow_form hrow
  rw [hf]
  exact ⟨a, c, rfl, hb⟩

theorem onat_read_none (hs : s.size ≤ maxLen) (hg : goodL s.data.toList = true) {nm : List UInt8} (hne : nm ≠ s.data.toList) (h : OneAt nm w0 w p D b sy true ops left keep) :
    Calls Try.prog 21 #[.pointer (some ⟨p, 0, none⟩), .string s] w fun r w' => ∃ v, r = .returned (.tuple #[v, .int .i64 4]) ∧ Hid (OneAt nm w0 w' p D b sy true ops left keep) ∧ Hid (Below w.heap.size w w') := by
  obtain ⟨T, h1, hB, hT, L⟩ := h
  obtain ⟨f, hf, _⟩ := L.file
  refine (Read_any h1 s hs).mono ?_
  rintro e w' ⟨v, l, rfl, hb, hrow, hc⟩
  have hz : findE D.files D.on s.data.toList = 4 := by
    unfold findE
    rw [L.on, ready_mk1 hg, hf]
    have : fileOf [(nm, f)] s.data.toList = none := by
      unfold fileOf
      rw [List.find?_cons_of_neg (by simpa using hne)]; rfl
    rw [this]; rfl
  rw [hz]
  exact ⟨v, rfl, ⟨T, h1.below hb, hB.trans (hb.mono hB.size), hT, L⟩, hb⟩

theorem empty_rename (hs : s.size ≤ maxLen) (ht : t.size ≤ maxLen) (h : ∃ T D, DiskAt w p T D ∧ D = emptyDV D.mb ∧ Below w0.heap.size w0 w ∧ (∀ k, T k ≠ none → w0.heap.size ≤ k)) :
    Calls Try.prog 23 #[.pointer (some ⟨p, 0, none⟩), .string s, .string t] w fun r w' => ∃ e : Int, r = .returned (.int .i64 e) ∧ Hid (e ≠ 0) ∧ Hid (Below w0.heap.size w0 w') := by
  obtain ⟨T, D, h1, hD, hB, hT⟩ := h
  have e2 : D.files = [] := by rw [hD]; rfl
  have e3 : D.left = 0 := by rw [hD]; rfl
  have e4 : D.ops = 0 := by rw [hD]; rfl
  refine (Rename_any h1 s t hs ht (by rw [e4]; omega) (by rw [e4]; omega) (by rw [e3]; omega)).mono ?_
  rintro e w' ⟨r, D2, rfl, hR, hA⟩
  obtain ⟨T2, h2, hB2, hT2⟩ := live_step hB hT hA
  refine ⟨r, rfl, ?_, hB2⟩
  rcases hR with ⟨g, rfl, _⟩ | ⟨_, _, rfl, _⟩ | ⟨_, f, g, _⟩
  · exact g
  · exact (by decide : (4 : Int) ≠ 0)
  · rw [e2] at g; cases g
end


set_option maxHeartbeats 800000 in
theorem moves_early (w : World) (a b : ByteArray) (ha : a.size ≤ maxLen) (hb : b.size ≤ maxLen) (da : Option Addr) (dn dc : Nat) (h : goodL a.data.toList = false ∨ goodL b.data.toList = false ∨ 1048576 < dn) :
    Calls Try.prog 6 #[.string a, .string b, .slice da dn dc] w fun e w' => e = .returned (.bool true) ∧ Below w.heap.size w w' := by
  have HGA := Lib.hid (fun w => Good_any a w ha)
  have HGB := Lib.hid (fun w => Good_any b w hb)
  have HA := Lib.hid ha
  have HB := Lib.hid hb
  have HH := Lib.hid h
  clear ha hb h
  go_enter Try.func6, Try.ntmps6
  go_wp2_with fail
  refine (at_new w).mono ?_
  rintro e w1 ⟨p, rfl, X1⟩
  go_wp2_with fail
  refine (HGA.out _).mono ?_
  rintro e w1' ⟨rfl, rfl⟩
  cases hga : goodL a.data.toList with
  | false =>
    clear hga
    go_wp2_with fail
    refine (empty_rename HA.out HB.out X1.out).mono ?_
    rintro e w2 ⟨r, rfl, hr, hB2⟩
    have hd : (r == 0) = false := by simpa using hr.out
    have hd2 : (r != 0) = true := by simpa using hr.out
    go_wp2_with fail
    refine (lives_any _).mono ?_
    rintro e w3 ⟨rfl, hl⟩
    have HL := Lib.hid hl
    clear hl
    go_wp2_with fail
    go_ret
    exact ⟨rfl, hB2.out.trans (HL.out.mono hB2.out.size)⟩
  | true =>
    have HGAT := Lib.hid hga
    clear hga
    go_wp2_with fail
    refine (HGB.out _).mono ?_
    rintro e w1' ⟨rfl, rfl⟩
    cases hgb : goodL b.data.toList with
    | false =>
      clear hgb
      go_wp2_with fail
      refine (empty_rename HA.out HB.out X1.out).mono ?_
      rintro e w2 ⟨r, rfl, hr, hB2⟩
      have hd : (r == 0) = false := by simpa using hr.out
      have hd2 : (r != 0) = true := by simpa using hr.out
      go_wp2_with fail
      refine (lives_any _).mono ?_
      rintro e w3 ⟨rfl, hl⟩
      have HL := Lib.hid hl
      clear hl
      go_wp2_with fail
      go_ret
      exact ⟨rfl, hB2.out.trans (HL.out.mono hB2.out.size)⟩
    | true =>
      have hdn : decide ((1048576 : Int) < (dn : Int)) = true := by
        rcases HH.out with g | g | g
        · rw [HGAT.out] at g; cases g
        · rw [hgb] at g; cases g
        · exact decide_eq_true (by omega)
      clear hgb
      go_wp2_with fail
      refine (empty_rename HA.out HB.out X1.out).mono ?_
      rintro e w2 ⟨r, rfl, hr, hB2⟩
      have hd : (r == 0) = false := by simpa using hr.out
      have hd2 : (r != 0) = true := by simpa using hr.out
      go_wp2_with fail
      refine (lives_any _).mono ?_
      rintro e w3 ⟨rfl, hl⟩
      have HL := Lib.hid hl
      clear hl
      go_wp2_with fail
      go_ret
      exact ⟨rfl, hB2.out.trans (HL.out.mono hB2.out.size)⟩
end Go.Proofs.Ytddhhgbbeeeieaa
