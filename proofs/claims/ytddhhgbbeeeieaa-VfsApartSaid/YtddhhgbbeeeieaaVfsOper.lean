/- Contract of vfs.Disk.operate: an operation is counted, done, and, if it is the one that is cut, the power fails. Conditions: a disk that was made. -/
import Derived.Test.YtddhhgbbeeeieaaVfsFail
set_option maxRecDepth 100000
namespace Go.Proofs.Ytddhhgbbeeeieaa
open Go.RowKit Go.Maps Go.Sort

/-- a disk behind a call: what it is, and what the call may have changed -/
def After (w : World) (p : Nat) (T : Nat → Option (Nat × Nat)) (w' : World) (D : DV) : Prop :=
  ∃ T2, DiskAt w' p T2 D ∧ Kept (In T) w w' ∧ ∀ k, T2 k ≠ none → T k ≠ none ∨ w.heap.size ≤ k

def failD (D : DV) : DV := { D with files := failK D.keep D.files D.files.length, on := false, ks := .slice none 0 0, keep := [] }
def opD (D : DV) : DV := { D with ops := D.ops + 1, left := if 0 < D.left then D.left - 1 else D.left }

theorem After.refl {w : World} {p : Nat} {T : Nat → Option (Nat × Nat)} {D : DV} (h : DiskAt w p T D) : After w p T w D := ⟨T, h, Kept.refl _ _, fun _ hk => .inl hk⟩
theorem After.trans {w w1 w2 : World} {p : Nat} {T : Nat → Option (Nat × Nat)} {D D' : DV} (h : After w p T w1 D) (k : ∀ T1, DiskAt w1 p T1 D → After w1 p T1 w2 D') : After w p T w2 D' := by
  obtain ⟨T1, h1, k1, s1⟩ := h
  obtain ⟨T2, h2, k2, s2⟩ := k T1 h1
  refine ⟨T2, h2, k1.trans k2 (fun x hx => s1 x hx), fun x hx => ?_⟩
  rcases s2 x hx with g | g
  · exact s1 x g
  · exact .inr (Nat.le_trans k1.size g)
theorem After.fail {w w1 w2 : World} {p : Nat} {T T2 : Nat → Option (Nat × Nat)} {D : DV} (k2 : Kept (In T) w w1) (s2 : ∀ k, T2 k ≠ none → T k ≠ none ∨ w.heap.size ≤ k) (h3 : DiskAt w2 p T2 D) (k3 : Kept (In T2) w1 w2) : After w p T w2 D :=
  ⟨T2, h3, k2.trans k3 (fun x hx => s2 x hx), s2⟩

theorem op_step {w : World} {p : Nat} {T : Nat → Option (Nat × Nat)} {D : DV} {l : Int} (h : DiskAt w p T D) {w' : World} (hw : w.setCell ⟨p, 2, none⟩ (.int .i64 (D.ops + 1)) = w' ∧ l = D.left ∨ (w.setCell ⟨p, 2, none⟩ (.int .i64 (D.ops + 1))).setCell ⟨p, 3, none⟩ (.int .i64 l) = w') :
    DiskAt w' p T { D with ops := D.ops + 1, left := l } ∧ Kept (fun k => k = p) w w' := by
  have h1 := heap_setCell_same (j := 2) h.disk (.int .i64 (D.ops + 1))
  have h2 := heap_setCell_same (j := 3) h1 (.int .i64 l)
  rcases hw with ⟨rfl, rfl⟩ | rfl
  · exact ⟨h.setOwn (T' := T) (on := D.on) (ops := D.ops + 1) (left := D.left) (ks := D.ks) (keep := D.keep) h1 (ownsRow_setCell_other h.keep (fun e => by have a1 := h.tk p e; rw [h.tp] at a1; simp at a1) _) (fun _ _ => rfl) h.tk (fun k hk => by simpa [World.setCell] using h.bound k hk) (fun k _ hkp _ => Below.heap_setCell _ _ _ _ hkp),
      (Kept.refl (fun k => k = p) w).setCell (p := ⟨p, 2, none⟩) (.inl rfl) _⟩
  · exact ⟨h.setOwn (T' := T) (on := D.on) (ops := D.ops + 1) (left := l) (ks := D.ks) (keep := D.keep) h2 (ownsRow_setCell_other (ownsRow_setCell_other h.keep (fun e => by have a1 := h.tk p e; rw [h.tp] at a1; simp at a1) _) (fun e => by have a1 := h.tk p e; rw [h.tp] at a1; simp at a1) _) (fun _ _ => rfl) h.tk (fun k hk => by simpa [World.setCell] using h.bound k hk) (fun k _ hkp _ => by rw [Below.heap_setCell _ _ _ _ hkp, Below.heap_setCell _ _ _ _ hkp]),
      ((Kept.refl (fun k => k = p) w).setCell (p := ⟨p, 2, none⟩) (.inl rfl) _).setCell (p := ⟨p, 3, none⟩) (.inl rfl) _⟩

set_option maxHeartbeats 400000 in
theorem operate_err (w : World) (p : Option Addr) (e : Int) (he : e ≠ 0) (lays : Bool) (d : Value) :
    Calls Try.prog 44 #[.pointer p, .int .i64 e, .bool lays, d] w fun r w' => r = .returned (.int .i64 e) ∧ w = w' := by
  go_enter Try.func44, Try.ntmps44
  go_wp2
  go_ret
  exact ⟨rfl, rfl⟩

/-- what a call of the closure does -/
def DoesTo (p : Nat) (fdo : FuncId) (caps : Array Value) (T : Nat → Option (Nat × Nat)) (R : DV → Prop) (w1 : World) : Prop :=
  Calls Try.prog fdo caps w1 fun e w2 => e = .returned (.tuple #[]) ∧ Hid (∃ D2, R D2 ∧ After w1 p T w2 D2)

theorem opD_pos {D : DV} (h : 0 < D.left) : opD D = { D with ops := D.ops + 1, left := D.left - 1 } := by unfold opD; rw [if_pos h]
theorem opD_neg {D : DV} (h : ¬ 0 < D.left) : opD D = { D with ops := D.ops + 1, left := D.left } := by unfold opD; rw [if_neg h]
theorem after_first {w w1 w2 : World} {p : Nat} {T : Nat → Option (Nat × Nat)} {D : DV} (hT : T p = some (0, 0)) (k : Kept (fun k => k = p) w w1) (h : After w1 p T w2 D) : After w p T w2 D := by
  obtain ⟨T2, h2, k2, s2⟩ := h
  have k1 : Kept (In T) w w1 := k.mono (fun x hx => by subst hx; unfold In; rw [hT]; simp)
  refine ⟨T2, h2, k1.trans k2 (fun x hx => .inl hx), fun x hx => ?_⟩
  rcases s2 x hx with g | g
  · exact .inl g
  · exact .inr (Nat.le_trans k1.size g)

section
variable {w : World} {p : Nat} {T : Nat → Option (Nat × Nat)} {D : DV} (fdo : FuncId) (caps : Array Value) (R : DV → Prop)

set_option maxHeartbeats 800000 in
theorem operate_do (hD : DiskAt w p T D) (lays : Bool) (hdo : ∀ w1, DiskAt w1 p T (opD D) → Kept (fun k => k = p) w w1 → DoesTo p fdo caps T R w1)
    (hcf : ∀ (w : World) (args : Array Value), (callFunc fdo args).run Try.prog w = .ok (.enter fdo args) w) (ho1 : 0 ≤ D.ops) (ho2 : D.ops ≤ 1000000000) (hl : D.left ≤ 9223372036854775807) (hcut : D.left ≠ 1) :
    Calls Try.prog 44 #[.pointer (some ⟨p, 0, none⟩), .int .i64 0, .bool lays, .func (.func fdo) #[] caps] w fun r w' => r = .returned (.int .i64 0) ∧ Hid (∃ D2, R D2 ∧ After w p T w' D2) := by
  obtain ⟨c0, c1, c2, c3, c4⟩ := hD.cell
  have f2 := hD.free 2
  have f3 := hD.free 3
  have HD := Lib.hid hD
  have HDO := Lib.hid hdo
  have hc : (D.left == 1) = false := by simpa using hcut
  have hlw : 0 < D.left → IntKind.i64.wrap (D.left - 1) = D.left - 1 := fun h => IntWalk.i64_in _ (by omega)
  have HLW := Lib.hid hlw
  clear hD hdo c0 c1 c4 hcut hl hlw
  by_cases hpos : 0 < D.left
  · have hlw1 := HLW.out hpos
    cases lays
    all_goals
      go_enter Try.func44, Try.ntmps44
      go_wp2_with fail
      generalize hw1 : World.setCell (World.setCell _ _ _) _ _ = w1
      have hs := op_step (l := D.left - 1) HD.out (.inr hw1)
      refine (HDO.out w1 (by rw [opD_pos hpos]; exact hs.1) hs.2).mono ?_
      rintro e w2 ⟨rfl, HR⟩
      have K1 := Lib.hid hs.2
      clear hs hw1
      go_wp2_with fail
      go_ret
      obtain ⟨D2, hR, hA⟩ := HR.out
      exact ⟨rfl, D2, hR, after_first HD.out.tp K1.out hA⟩
  · cases lays
    all_goals
      go_enter Try.func44, Try.ntmps44
      go_wp2_with fail
      generalize hw1 : World.setCell _ _ _ = w1
      have hs := op_step (l := D.left) HD.out (.inl ⟨hw1, rfl⟩)
      refine (HDO.out w1 (by rw [opD_neg (by omega)]; exact hs.1) hs.2).mono ?_
      rintro e w2 ⟨rfl, HR⟩
      have K1 := Lib.hid hs.2
      clear hs hw1
      go_wp2_with fail
      go_ret
      obtain ⟨D2, hR, hA⟩ := HR.out
      exact ⟨rfl, D2, hR, after_first HD.out.tp K1.out hA⟩

set_option maxHeartbeats 800000 in
theorem operate_lays (hD : DiskAt w p T D) (hdo : ∀ w1, DiskAt w1 p T (opD D) → Kept (fun k => k = p) w w1 → DoesTo p fdo caps T R w1)
    (hcf : ∀ (w : World) (args : Array Value), (callFunc fdo args).run Try.prog w = .ok (.enter fdo args) w) (ho1 : 0 ≤ D.ops) (ho2 : D.ops ≤ 1000000000) (hcut : D.left = 1) :
    Calls Try.prog 44 #[.pointer (some ⟨p, 0, none⟩), .int .i64 0, .bool true, .func (.func fdo) #[] caps] w fun r w' => r = .returned (.int .i64 9) ∧ Hid (∃ D2, R D2 ∧ After w p T w' (failD D2)) := by
  obtain ⟨c0, c1, c2, c3, c4⟩ := hD.cell
  have f2 := hD.free 2
  have f3 := hD.free 3
  have HD := Lib.hid hD
  have HDO := Lib.hid hdo
  rw [hcut] at c3
  have HC := Lib.hid hcut
  clear hD hdo c0 c1 c4 hcut
  go_enter Try.func44, Try.ntmps44
  go_wp2_with fail
  generalize hw1 : World.setCell (World.setCell _ _ _) _ _ = w1
  have hs := op_step (l := 0) HD.out (.inr hw1)
  refine (HDO.out w1 (by rw [opD_pos (by rw [HC.out]; omega), HC.out]; exact hs.1) hs.2).mono ?_
  rintro e w2 ⟨rfl, HR⟩
  have K1 := Lib.hid hs.2
  clear hs hw1
  go_wp2_with fail
  obtain ⟨D2, hR, T2, h2, k2, s2⟩ := HR.out
  refine (fail_any h2).mono ?_
  rintro e w3 ⟨rfl, h3, k3⟩
  have HR := Lib.hid hR
  have HA := Lib.hid (after_first HD.out.tp K1.out (After.fail k2 s2 h3 k3))
  clear hR h2 k2 s2 h3 k3
  go_wp2_with fail
  go_ret
  exact ⟨rfl, D2, HR.out, HA.out⟩

set_option maxHeartbeats 800000 in
theorem operate_cut (hD : DiskAt w p T D)
    (ho1 : 0 ≤ D.ops) (ho2 : D.ops ≤ 1000000000) (hcut : D.left = 1) (d : Value) :
    Calls Try.prog 44 #[.pointer (some ⟨p, 0, none⟩), .int .i64 0, .bool false, d] w fun r w' => r = .returned (.int .i64 9) ∧ Hid (After w p T w' (failD (opD D))) := by
  obtain ⟨c0, c1, c2, c3, c4⟩ := hD.cell
  have f2 := hD.free 2
  have f3 := hD.free 3
  have HD := Lib.hid hD
  rw [hcut] at c3
  have HC := Lib.hid hcut
  clear hD c0 c1 c4 hcut
  go_enter Try.func44, Try.ntmps44
  go_wp2_with fail
  generalize hw1 : World.setCell (World.setCell _ _ _) _ _ = w1
  have hs := op_step (l := 0) HD.out (.inr hw1)
  have h1 : DiskAt w1 p T (opD D) := by rw [opD_pos (by rw [HC.out]; omega), HC.out]; exact hs.1
  refine (fail_any h1).mono ?_
  rintro e w3 ⟨rfl, h3, k3⟩
  have HA := Lib.hid (after_first HD.out.tp hs.2 (After.fail (Kept.refl _ _) (fun _ hk => .inl hk) h3 k3))
  clear hs hw1 h1 h3 k3
  go_wp2_with fail
  go_ret
  exact ⟨rfl, HA.out⟩

/-- an operation's answer, and the disk behind it -/
def OperP (D : DV) (lays : Bool) (R : DV → Prop) (e : Int) (D2 : DV) : Prop :=
  (D.left ≠ 1 ∧ e = 0 ∧ R D2) ∨ (D.left = 1 ∧ lays = true ∧ e = 9 ∧ ∃ D1, R D1 ∧ D2 = failD D1) ∨ (D.left = 1 ∧ lays = false ∧ e = 9 ∧ D2 = failD (opD D))

/-- a call's answer, and the disk behind it -/
def Does (w : World) (p : Nat) (T : Nat → Option (Nat × Nat)) (R : Int → DV → Prop) (r : Ending) (w' : World) : Prop := ∃ e D2, r = .returned (.int .i64 e) ∧ R e D2 ∧ After w p T w' D2

theorem operate_any (hD : DiskAt w p T D) (lays : Bool) (hdo : ∀ w1, DiskAt w1 p T (opD D) → Kept (fun k => k = p) w w1 → DoesTo p fdo caps T R w1)
    (hcf : ∀ (w : World) (args : Array Value), (callFunc fdo args).run Try.prog w = .ok (.enter fdo args) w) (ho1 : 0 ≤ D.ops) (ho2 : D.ops ≤ 1000000000) (hl : D.left ≤ 9223372036854775807) :
    Calls Try.prog 44 #[.pointer (some ⟨p, 0, none⟩), .int .i64 0, .bool lays, .func (.func fdo) #[] caps] w (Does w p T (OperP D lays R)) := by
  by_cases hcut : D.left = 1
  · cases lays with
    | true =>
      refine (operate_lays fdo caps R hD hdo hcf ho1 ho2 hcut).mono ?_
      rintro e w' ⟨rfl, D2, hR, hA⟩
      exact ⟨9, _, rfl, .inr (.inl ⟨hcut, rfl, rfl, D2, hR, rfl⟩), hA⟩
    | false =>
      refine (operate_cut hD ho1 ho2 hcut _).mono ?_
      rintro e w' ⟨rfl, hA⟩
      exact ⟨9, _, rfl, .inr (.inr ⟨hcut, rfl, rfl, rfl⟩), hA⟩
  · refine (operate_do fdo caps R hD lays hdo hcf ho1 ho2 hl hcut).mono ?_
    rintro e w' ⟨rfl, D2, hR, hA⟩
    exact ⟨0, _, rfl, .inl ⟨hcut, rfl, hR⟩, hA⟩
end
end Go.Proofs.Ytddhhgbbeeeieaa
