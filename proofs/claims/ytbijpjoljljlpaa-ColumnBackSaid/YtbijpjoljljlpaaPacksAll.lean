/- Pack and Unpack, and the document's: the same answers for any width and count. Conditions: small lists. -/
import Derived.Test.YtbijpjoljljlpaaCodecUnpack
import Derived.Test.YtbijpjoljljlpaaPackRange
import Derived.Test.YtbijpjoljljlpaaRefUnpack
set_option maxRecDepth 100000
namespace Go.Proofs.Ytbijpjoljljlpaa
open Go.RowKit Go.Maps Go.Sort

theorem Pack_arg {w : World} (wd : Int) (hw : wd < 0 ∨ 64 < wd) (v : Value) :
    Calls Try.prog 24 #[.int .i64 wd, v] w fun e w' => e = .returned (.tuple #[.slice none 0 0, .int .i64 2]) ∧ Below w.heap.size w w' := by
  refine (callsIn_wide (n := 0)).1 ?_
  refine callsIn_of_wp_marks Try.func24 rfl trivial ?_ rfl
  simp only [Try.ntmps24, List.size_toArray, List.length_cons, List.length_nil, Nat.reduceAdd, Nat.reduceSub, Array.replicate_succ, Array.replicate_zero, List.push_toArray, List.append_toArray, List.nil_append, List.cons_append]
  by_cases h : wd < 0
  · have t1 : decide (wd < 0) = true := decide_eq_true h
    gi_wp2_with fail
    refine leave_marks (B := w.heap.size) (v := .tuple #[.slice none 0 0, .int .i64 2]) (fun w' => by simp [results, Try.results24, go_sem]) [] _ trivial (fun W' hs => ?_)
    exact ⟨rfl, hs.below⟩
  · have t1 : decide (wd < 0) = false := decide_eq_false h
    have t2 : decide ((64 : Int) < wd) = true := decide_eq_true (by omega)
    gi_wp2_with fail
    refine leave_marks (B := w.heap.size) (v := .tuple #[.slice none 0 0, .int .i64 2]) (fun w' => by simp [results, Try.results24, go_sem]) [] _ trivial (fun W' hs => ?_)
    exact ⟨rfl, hs.below⟩

theorem below3r (w : World) (A B C : Obj) : Below w.heap.size w (((w.alloc A).alloc B).alloc C) := (((Below.refl _ _).alloc (Nat.le_refl _) _).alloc (by simp) _).alloc (by simp; omega) _

theorem Unpack_arg {w : World} (wd n : Int) (hw : wd < 0 ∨ 64 < wd ∨ n < 0 ∨ 100000 < n) (v : Value) (hv : ∃ a l c, v = .slice a l c) :
    Calls Try.prog 47 #[.int .i64 wd, .int .i64 n, v] w fun e w' => e = .returned (.tuple #[.slice none 0 0, .int .i64 2]) ∧ Below w.heap.size w w' := by
  obtain ⟨a, l, c, rfl⟩ := hv
  go_enter Try.func47, Try.ntmps47
  by_cases h1 : wd < 0
  · have t1 : decide (wd < 0) = true := decide_eq_true h1
    go_wp2_with fail
    go_ret2
    exact ⟨rfl, below3r _ _ _ _⟩
  · have t1 : decide (wd < 0) = false := decide_eq_false h1
    by_cases h2 : 64 < wd
    · have t2 : decide ((64 : Int) < wd) = true := decide_eq_true h2
      go_wp2_with fail
      go_ret2
      exact ⟨rfl, below3r _ _ _ _⟩
    · have t2 : decide ((64 : Int) < wd) = false := decide_eq_false h2
      by_cases h3 : n < 0
      · have t3 : decide (n < 0) = true := decide_eq_true h3
        go_wp2_with fail
        go_ret2
        exact ⟨rfl, below3r _ _ _ _⟩
      · have t3 : decide (n < 0) = false := decide_eq_false h3
        have t4 : decide ((100000 : Int) < n) = true := decide_eq_true (by omega)
        go_wp2_with fail
        go_ret2
        exact ⟨rfl, below3r _ _ _ _⟩

/-- the document's answers -/
def packAns (wd : Int) (l : List UInt64) : List UInt8 × Int :=
  if wd < 0 ∨ 64 < wd then ([], 2) else if ∀ u ∈ l, u.toNat < 2 ^ wd.toNat then (bytesN ((wd.toNat * l.length + 7) / 8) (bigN wd.toNat (nats l)), 0) else ([], 6)
def unpackAns (wd n : Int) (bs : List UInt8) : List UInt64 × Int :=
  if wd < 0 ∨ 64 < wd ∨ n < 0 ∨ 100000 < n then ([], 2) else if bs.length = (wd.toNat * n.toNat + 7) / 8 ∧ numB bs < 2 ^ (wd.toNat * n.toNat) then (unpackL wd.toNat n.toNat (numB bs), 0) else ([], 8)

theorem Pack_all {w : World} {a : Option Addr} {cap : Nat} {l : List UInt64} (h : Holds w (.slice a l.length cap) (u64s l)) (hl : l.length ≤ 100000) (wd : Int) :
    Calls Try.prog 24 #[.int .i64 wd, .slice a l.length cap] w fun e w' => ∃ v', e = .returned (.tuple #[v', .int .i64 (packAns wd l).2]) ∧ Hid (Holds w' v' (u8s (packAns wd l).1) ∧ Below w.heap.size w w') := by
  unfold packAns
  by_cases h1 : wd < 0 ∨ 64 < wd
  · simp only [if_pos h1]
    refine (Pack_arg wd h1 _).mono ?_
    rintro e w' ⟨rfl, hb⟩
    exact ⟨_, rfl, Lib.hid ⟨Holds.nil _, hb⟩⟩
  · obtain ⟨x, rfl⟩ : ∃ x : Nat, wd = x := ⟨wd.toNat, by omega⟩
    have hx : x ≤ 64 := by omega
    simp only [if_neg h1, Int.toNat_natCast]
    by_cases h2 : ∀ u ∈ l, u.toNat < 2 ^ x
    · simp only [if_pos h2]
      refine (Pack_main h (by omega) x hx (fun u hu => Lib.bitLen_le _ _ hx (h2 u hu)) h2).mono ?_
      rintro e w' ⟨v', rfl, hv⟩
      refine ⟨v', rfl, Lib.hid ⟨Holds.of_row (base := w.heap.size) (e := 5) ?_, hv.out.2⟩⟩
      rw [u8s_len, bytesN_len]
      exact hv.out.1
    · simp only [if_neg h2]
      refine (Pack_range h (by omega) x hx (by simpa using h2)).mono ?_
      rintro e w' ⟨rfl, hb⟩
      exact ⟨_, rfl, Lib.hid ⟨Holds.nil _, hb⟩⟩
theorem row_holds {w : World} {B n : Nat} {v : Value} {l : List UInt64} (h : w.ownsRow B 44 1 v n (u64s l)) (hn : n = l.length) : ∃ a c, v = .slice a l.length c ∧ Holds w (.slice a l.length c) (u64s l) := by
  subst hn
  obtain ⟨a, c, rfl, _⟩ := ownsRow_form h
  exact ⟨a, c, rfl, Holds.of_row (base := B) (e := 44) (by rw [u64s_len]; exact h)⟩

theorem Unpack_all {w : World} {a : Option Addr} {cap : Nat} {bs : List UInt8} (h : Holds w (.slice a bs.length cap) (u8s bs)) (wd n : Int) :
    Calls Try.prog 47 #[.int .i64 wd, .int .i64 n, .slice a bs.length cap] w fun e w' => ∃ a' c', e = .returned (.tuple #[.slice a' (unpackAns wd n bs).1.length c', .int .i64 (unpackAns wd n bs).2]) ∧ Hid (Holds w' (.slice a' (unpackAns wd n bs).1.length c') (u64s (unpackAns wd n bs).1) ∧ Below w.heap.size w w') := by
  unfold unpackAns
  by_cases h1 : wd < 0 ∨ 64 < wd ∨ n < 0 ∨ 100000 < n
  · simp only [if_pos h1]
    refine (Unpack_arg wd n h1 _ ⟨_, _, _, rfl⟩).mono ?_
    rintro e w' ⟨rfl, hb⟩
    exact ⟨_, _, rfl, Lib.hid ⟨Holds.nil _, hb⟩⟩
  · obtain ⟨x, rfl⟩ : ∃ x : Nat, wd = x := ⟨wd.toNat, by omega⟩
    obtain ⟨y, rfl⟩ : ∃ y : Nat, n = y := ⟨n.toNat, by omega⟩
    have hx : x ≤ 64 := by omega
    have hy : y ≤ 100000 := by omega
    simp only [if_neg h1, Int.toNat_natCast]
    by_cases h2 : bs.length = (x * y + 7) / 8 ∧ numB bs < 2 ^ (x * y)
    · simp only [if_pos h2]
      refine (Unpack_ok h x y hx hy h2.1 h2.2).mono ?_
      rintro e w' ⟨v', rfl, hv⟩
      obtain ⟨a', c', rfl, hh⟩ := row_holds hv.out.1 (unpackL_len _ _ _).symm
      exact ⟨a', c', rfl, Lib.hid ⟨hh, hv.out.2⟩⟩
    · simp only [if_neg h2]
      by_cases h3 : bs.length = (x * y + 7) / 8
      · refine (Unpack_trail h x y hx hy h3 (fun h4 => h2 ⟨h3, h4⟩)).mono ?_
        rintro e w' ⟨rfl, hb⟩
        exact ⟨_, _, rfl, Lib.hid ⟨Holds.nil _, hb⟩⟩
      · refine (Unpack_size x y hx hy h3).mono ?_
        rintro e w' ⟨rfl, hb⟩
        exact ⟨_, _, rfl, Lib.hid ⟨Holds.nil _, hb⟩⟩
end Go.Proofs.Ytbijpjoljljlpaa
