/- Contracts of vfs's small functions: made, ready, find, pending, Start, On, Ops. Conditions: a disk that was made, or none at all. -/
import Derived.Test.YtddhhgbbeeeieaaVfsBase
import Derived.Deep.QuietTactic
import Derived.BigQuiet
set_option maxRecDepth 100000
namespace Go.Proofs.Ytddhhgbbeeeieaa
open Go.RowKit Go.Maps Go.Sort

theorem neqMap50 (m : Option Nat) (w : World) : (binOp .neq 50 (.map m) (.map none)).run Try.prog w = .ok (.bool (!m.isNone)) w := run_neq_map_nil w _ _ _ m Try.underlying50
attribute [local go_sem] neqMap50

section
variable {w : World} {p : Nat} {T : Nat → Option (Nat × Nat)} {D : DV}

set_option maxHeartbeats 400000 in
theorem made_any (hD : DiskAt w p T D) : Calls Try.prog 50 #[.pointer (some ⟨p, 0, none⟩)] w fun e w' => e = .returned (.bool true) ∧ w = w' := by
  obtain ⟨c0, c1, c2, c3, c4⟩ := hD.cell
  clear hD
  go_enter Try.func50, Try.ntmps50
  go_wp2
  go_ret
  exact ⟨rfl, rfl⟩

set_option maxHeartbeats 400000 in
theorem made_nil (w : World) : Calls Try.prog 50 #[.pointer none] w fun e w' => e = .returned (.bool false) ∧ w = w' := by
  go_enter Try.func50, Try.ntmps50
  go_wp2
  go_ret
  exact ⟨rfl, rfl⟩

set_option maxHeartbeats 400000 in
theorem made_zero (w : World) (p : Nat) (c0 : w.cell? ⟨p, 0, none⟩ = some (.map none)) : Calls Try.prog 50 #[.pointer (some ⟨p, 0, none⟩)] w fun e w' => e = .returned (.bool false) ∧ w = w' := by
  go_enter Try.func50, Try.ntmps50
  go_wp2
  go_ret
  exact ⟨rfl, rfl⟩

/-- the first error of a call on a disk that was made -/
def readyE (on : Bool) (ns : List (List UInt8)) : Int := if on then (if ns.all goodL then 0 else 3) else 9

theorem getD_mem {ns : List ByteArray} {k : Nat} (h : k < ns.length) : ns.getD k ⟨#[]⟩ ∈ ns := by
  rw [List.getD_eq_getElem?_getD, List.getElem?_eq_getElem h]; exact List.getElem_mem _
theorem good_snoc {ns : List ByteArray} {k : Nat} (h : k < ns.length) (ha : ((ns.take k).map fun s => s.data.toList).all goodL = true) (hg : goodL (ns.getD k ⟨#[]⟩).data.toList = true) :
    ((ns.take (k + 1)).map fun s => s.data.toList).all goodL = true := by
  rw [List.take_succ_eq_append_getElem h, List.map_append, List.all_append, ha]
  rw [List.getD_eq_getElem?_getD, List.getElem?_eq_getElem h] at hg
  simpa using hg
theorem ready_bad {ns : List ByteArray} {k : Nat} (h : k < ns.length) (hg : goodL (ns.getD k ⟨#[]⟩).data.toList = false) : readyE true (ns.map fun s => s.data.toList) = 3 := by
  unfold readyE
  have : (ns.map fun s => s.data.toList).all goodL = false := by
    rw [List.all_eq_false]
    exact ⟨_, List.mem_map.2 ⟨_, getD_mem h, rfl⟩, by rw [hg]; simp⟩
  rw [if_pos rfl, this]; rfl
theorem ready_ok {ns : List ByteArray} {k : Nat} (h : ¬ k < ns.length) (ha : ((ns.take k).map fun s => s.data.toList).all goodL = true) : readyE true (ns.map fun s => s.data.toList) = 0 := by
  rw [List.take_of_length_le (by omega)] at ha
  unfold readyE
  rw [if_pos rfl, ha]; rfl

set_option maxHeartbeats 800000 in
theorem ready_any (hD : DiskAt w p T D) (b n c : Nat) (ns : List ByteArray) (hn : ns.length = n) (hns : ∀ i, i < ns.length → w.cell? ⟨b, i, none⟩ = some (.string (ns.getD i ⟨#[]⟩))) (hsz : ∀ s ∈ ns, s.size ≤ maxLen) (hl : ns.length ≤ 100) :
    Calls Try.prog 43 #[.pointer (some ⟨p, 0, none⟩), .slice (some ⟨b, 0, none⟩) n c] w fun e w' => e = .returned (.int .i64 (readyE D.on (ns.map fun s => s.data.toList))) ∧ w = w' := by
  subst hn
  obtain ⟨c0, c1, c2, c3, c4⟩ := hD.cell
  have HD := Lib.hid hD
  clear hD
  have HN := Lib.hid hns
  clear hns
  have HZ := Lib.hid hsz
  clear hsz
  cases hon : D.on with
  | false =>
    rw [hon] at c1
    go_enter Try.func43, Try.ntmps43
    go_wp2_with (go_at_call 50; refine (made_any HD.out).mono ?_; rintro e w' ⟨rfl, rfl⟩)
    go_ret
    exact ⟨rfl, rfl⟩
  | true =>
    rw [hon] at c1
    go_enter Try.func43, Try.ntmps43
    go_wp2_with (go_at_call 50; refine (made_any HD.out).mono ?_; rintro e w' ⟨rfl, rfl⟩)
    go_loop [6, 17] (fun _ i => ∃ k : Nat, k ≤ ns.length ∧ i = .int .i64 k ∧ Hid (((ns.take k).map fun s => s.data.toList).all goodL = true)) (fun _ i => ns.length - (intOf i).toNat)
    case atStart => exact ⟨0, Nat.zero_le _, rfl, rfl⟩
    case round =>
      obtain ⟨k, hk, rfl, hall⟩ := hrel
      by_cases hlt : k < ns.length
      · have hcell := HN.out k hlt
        have hsk := HZ.out _ (getD_mem hlt)
        cases hg : goodL (ns.getD k ⟨#[]⟩).data.toList with
        | true =>
          have Hg := Lib.hid hg
          have Hn := Lib.hid (good_snoc hlt hall.out hg)
          clear hg
          generalize hs : ns.getD k ⟨#[]⟩ = s at *
          clear hs
          go_wp2_with (go_at_call 13; refine (Good_any s _ hsk).mono ?_; rintro e w' ⟨rfl, rfl⟩; simp only [Hg.out])
          go_round
          case rel => exact ⟨k + 1, by omega, by go_num, Hn.out⟩
          case measure => simp [intOf]; omega
        | false =>
          have Hn := Lib.hid (ready_bad hlt hg)
          have Hg := Lib.hid hg
          clear hg
          generalize hs : ns.getD k ⟨#[]⟩ = s at *
          clear hs
          go_wp2_with (go_at_call 13; refine (Good_any s _ hsk).mono ?_; rintro e w' ⟨rfl, rfl⟩; simp only [Hg.out])
          go_ret
          exact ⟨ret_int Hn.out.symm, rfl⟩
      · go_wp2
        go_ret
        exact ⟨ret_int (ready_ok hlt hall.out).symm, rfl⟩

set_option maxHeartbeats 800000 in
theorem ready_none (hD : DiskAt w p T D) :
    Calls Try.prog 43 #[.pointer (some ⟨p, 0, none⟩), .slice none 0 0] w fun e w' => e = .returned (.int .i64 (if D.on then 0 else 9)) ∧ w = w' := by
  obtain ⟨c0, c1, c2, c3, c4⟩ := hD.cell
  have HD := Lib.hid hD
  clear hD
  cases hon : D.on with
  | false =>
    rw [hon] at c1
    go_enter Try.func43, Try.ntmps43
    go_wp2_with (go_at_call 50; refine (made_any HD.out).mono ?_; rintro e w' ⟨rfl, rfl⟩)
    go_ret
    exact ⟨rfl, rfl⟩
  | true =>
    rw [hon] at c1
    go_enter Try.func43, Try.ntmps43
    go_wp2_with (go_at_call 50; refine (made_any HD.out).mono ?_; rintro e w' ⟨rfl, rfl⟩)
    go_loop [6, 17] (fun _ i => i = .int .i64 0) (fun _ _ => 0)
    case atStart => rfl
    case round =>
      subst hrel
      go_wp2
      go_ret
      exact ⟨rfl, rfl⟩

/-- what find answers -/
def findV (L : List (List UInt8 × FileC)) (on : Bool) (k : List UInt8) : Option FileC := if readyE on [k] = 0 then fileOf L k else none
def findE (L : List (List UInt8 × FileC)) (on : Bool) (k : List UInt8) : Int := if readyE on [k] = 0 then (if (fileOf L k).isSome then 0 else 4) else readyE on [k]


set_option maxHeartbeats 800000 in
theorem find_any (hD : DiskAt w p T D) (s : ByteArray) (hs : s.size ≤ maxLen) :
    Calls Try.prog 47 #[.pointer (some ⟨p, 0, none⟩), .string s] w fun e w' =>
      e = .returned (.tuple #[ptrV (findV D.files D.on s.data.toList), .int .i64 (findE D.files D.on s.data.toList)]) ∧ Below w.heap.size w w' := by
  have HD := Lib.hid (hD.below (((Below.refl _ w).alloc (Nat.le_refl _) (.cells #[.string s] 9))))
  clear hD
  go_enter Try.func47, Try.ntmps47
  go_wp2_with fail
  refine (ready_any HD.out _ _ _ [s] rfl (fun i hi => by
    have : i = 0 := by simp at hi; omega
    subst this
    simp) (fun t ht => by simp at ht; subst ht; exact hs) (by simp)).mono ?_
  rintro e w1 ⟨rfl, hw⟩
  have hB : Below w.heap.size w w1 := hw ▸ (Below.refl _ w).alloc (Nat.le_refl _) _
  have HD1 := HD.out
  rw [hw] at HD1
  clear hw HD
  obtain ⟨c0, c1, c2, c3, c4⟩ := HD1.cell
  have HL : Hid ((Instr.lookup 50 (.map (some D.mb)) (.string s) false).run Try.prog w1 = .ok (ptrV (fileOf D.files s.data.toList)) w1) := Lib.hid (HD1.look hs 0)
  have HD := Lib.hid HD1
  clear HD1 c1 c2 c3 c4 hs
  generalize hr0 : readyE D.on (List.map (fun s => s.data.toList) [s]) = r
  have hr1 : readyE D.on [s.data.toList] = r := hr0
  clear hr0
  by_cases hr : r = 0
  · subst hr
    have E1 := Lib.hid (show findV D.files D.on s.data.toList = fileOf D.files s.data.toList by unfold findV; rw [if_pos hr1])
    have E2 := Lib.hid (show findE D.files D.on s.data.toList = if (fileOf D.files s.data.toList).isSome then 0 else 4 by unfold findE; rw [if_pos hr1])
    clear hr1
    cases hf : fileOf D.files s.data.toList with
    | none =>
      rw [hf] at HL E1 E2
      have HL2 : (Instr.lookup 50 (.map (some D.mb)) (.string s) false).run Try.prog w1 = .ok (.pointer none) w1 := HL.out
      clear hf
      go_wp2
      go_ret2
      exact ⟨by rw [E1.out, E2.out]; rfl, hB⟩
    | some f =>
      rw [hf] at HL E1 E2
      have HL2 : (Instr.lookup 50 (.map (some D.mb)) (.string s) false).run Try.prog w1 = .ok (.pointer (some ⟨f.blk, 0, none⟩)) w1 := HL.out
      clear hf
      go_wp2
      go_ret2
      exact ⟨by rw [E1.out, E2.out]; rfl, hB⟩
  · have E1 := Lib.hid (show findV D.files D.on s.data.toList = none by unfold findV; rw [if_neg (by rw [hr1]; exact hr)])
    have E2 := Lib.hid (show findE D.files D.on s.data.toList = r by unfold findE; rw [if_neg (by rw [hr1]; exact hr), hr1])
    clear hr1
    go_wp2
    go_ret2
    exact ⟨by rw [E1.out, E2.out]; rfl, hB⟩
end
end Go.Proofs.Ytddhhgbbeeeieaa
