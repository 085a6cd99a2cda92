/- Contracts of talusref01.Disk's functions on a disk without files: each call but Create fails, and nothing that was there changes. Conditions: an empty reference disk. -/
import Derived.Test.YtddhhgbbeeeieaaVfsRemove
set_option maxRecDepth 100000
namespace Go.Proofs.Ytddhhgbbeeeieaa
open Go.RowKit Go.Maps Go.Sort

/-- an empty reference disk -/
def RefE (w : World) (q : Nat) : Prop := w.heap[q]? = some (.cells #[.slice none 0 0, .bool false, .int .i64 0, .slice none 0 0, .int .i64 0] 29 (0, 0))
theorem RefE.cell {w : World} {q : Nat} (h : RefE w q) : w.cell? ⟨q, 0, none⟩ = some (.slice none 0 0) ∧ w.cell? ⟨q, 1, none⟩ = some (.bool false) ∧ w.cell? ⟨q, 2, none⟩ = some (.int .i64 0) ∧ w.cell? ⟨q, 4, none⟩ = some (.int .i64 0) := by
  refine ⟨?_, ?_, ?_, ?_⟩ <;> (rw [cell_of_row w q _ _ _ _ h]; rfl)
theorem RefE.lt {w : World} {q : Nat} (h : RefE w q) : q < w.heap.size := (Array.getElem?_eq_some_iff.1 h).1
theorem RefE.below {w w' : World} {q : Nat} (h : RefE w q) (hb : Below w.heap.size w w') : RefE w' q := (hb.block q h.lt).trans h

set_option maxHeartbeats 400000 in
theorem refFind_empty {w : World} {q : Nat} (h : RefE w q) (s : ByteArray) :
    Calls Try.prog 57 #[.pointer (some ⟨q, 0, none⟩), .string s] w fun e w' => e = .returned (.int .i64 (-1)) ∧ w = w' := by
  obtain ⟨c0, _, _, _⟩ := h.cell
  have H := Lib.hid h
  clear h
  go_enter Try.func57, Try.ntmps57
  go_wp2
  go_loop [5, 6, 12] (fun _ _ i => i = .int .i64 0) (fun _ _ i => 0)
  case atStart => rfl
  case round =>
    subst hrel
    go_wp2
    go_ret
    exact ⟨rfl, rfl⟩

/-- the answer of may on an empty reference disk -/
def mayE (r : Int) (there : Bool) : Int := if r = 0 then (if there then 4 else 0) else r

set_option maxHeartbeats 800000 in
theorem refMay_empty {w : World} {q : Nat} (h : RefE w q) (b n c : Nat) (ns : List ByteArray) (there : Bool) (hn : ns.length = n) (hns : ∀ i, i < ns.length → w.cell? ⟨b, i, none⟩ = some (.string (ns.getD i ⟨#[]⟩))) (hsz : ∀ s ∈ ns, s.size ≤ maxLen) (hl : ns.length ≤ 100) (h0 : 0 < ns.length) :
    Calls Try.prog 56 #[.pointer (some ⟨q, 0, none⟩), .slice (some ⟨b, 0, none⟩) n c, .bool there] w fun e w' => e = .returned (.int .i64 (mayE (readyE true (ns.map fun s => s.data.toList)) there)) ∧ w = w' := by
  subst hn
  obtain ⟨_, c1, _, _⟩ := h.cell
  have H := Lib.hid h
  have HN := Lib.hid hns
  have HZ := Lib.hid hsz
  have n0 := hns 0 h0
  clear h hns hsz
  go_enter Try.func56, Try.ntmps56
  go_wp2
  go_loop [8, 15] (fun _ i => ∃ k : Nat, k ≤ ns.length ∧ i = .int .i64 k ∧ Hid (((ns.take k).map fun s => s.data.toList).all goodL = true)) (fun _ i => ns.length - (intOf i).toNat)
  case atStart => exact ⟨0, Nat.zero_le _, rfl, rfl⟩
  case round =>
    obtain ⟨k, hk, rfl, hall⟩ := hrel
    by_cases hlt : k < ns.length
    · have hcell := HN.out k hlt
      have hsk := HZ.out _ (getD_mem hlt)
      cases hg : goodL (ns.getD k ⟨#[]⟩).data.toList with
      | true =>
        have Hg := Lib.hid hg
        have Hn := Lib.hid (good_snoc hlt hall.out hg)
        clear hg
        generalize hs : ns.getD k ⟨#[]⟩ = s at *
        clear hs
        go_wp2_with (go_at_call 14; refine (refGood_any s _ hsk).mono ?_; rintro e w' ⟨rfl, rfl⟩; simp only [Hg.out])
        go_round
        case rel => exact ⟨k + 1, by omega, by go_num, Hn.out⟩
        case measure => simp [intOf]; omega
      | false =>
        have Hn := Lib.hid (ready_bad hlt hg)
        have Hg := Lib.hid hg
        clear hg
        generalize hs : ns.getD k ⟨#[]⟩ = s at *
        clear hs
        go_wp2_with (go_at_call 14; refine (refGood_any s _ hsk).mono ?_; rintro e w' ⟨rfl, rfl⟩; simp only [Hg.out])
        go_ret
        exact ⟨ret_int (by rw [Hn.out]; rfl), rfl⟩
    · have Hn := Lib.hid (ready_ok hlt hall.out)
      generalize hs : ns.getD 0 ⟨#[]⟩ = s at *
      cases there
      · go_wp2_with fail
        go_ret
        exact ⟨ret_int (by rw [Hn.out]; rfl), rfl⟩
      · go_wp2_with (go_at_call 57; refine (refFind_empty H.out _).mono ?_; rintro e w' ⟨rfl, rfl⟩)
        go_ret
        exact ⟨ret_int (by rw [Hn.out]; rfl), rfl⟩
end Go.Proofs.Ytddhhgbbeeeieaa
