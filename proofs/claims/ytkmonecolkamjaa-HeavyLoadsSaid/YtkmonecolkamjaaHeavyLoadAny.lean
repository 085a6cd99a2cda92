/- Contract of heavy's Load at any bytes. Conditions: at most 100000 bytes. -/
import Derived.Test.YtkmonecolkamjaaHeavyReadAny
import Derived.Test.YtkmonecolkamjaaHeavyBack
set_option maxRecDepth 100000
namespace Go.Proofs.Ytkmonecolkamjaa
open Go.RowKit Go.Maps Go.Sort Go.Shelf

set_option maxHeartbeats 1000000 in
theorem read_nil {T : Tags} {i : Nat} {W0 w : World} {p m b : Nat} (h : HkAt T i w p m 0 b []) (h1 : 1 ≤ m) (h64 : m ≤ 64) (hp : W0.heap.size ≤ p) (hB : Below W0.heap.size W0 w) :
    Calls Try.prog 36 #[.pointer (some ⟨p, 0, none⟩), .slice none 0 0] w fun e w' => e = .returned (.tuple #[]) ∧ Hid (ReadP T i W0 p m b w') := by
  obtain ⟨c0, c1, c2, f0⟩ := h.cells
  have f1 := f0 1
  have KE : ∀ W, Hid (Calls Try.prog 52 #[.slice none 0 0] W fun e w' => e = .returned (.tuple #[.int .u64 0, .int .i64 0]) ∧ W = w') := fun W => Lib.hid (by
    have K := Get_any (w := W) (v := .slice none 0 0) (l := []) (Holds.nil W) (by simp)
    exact K)
  have hst := h.set_total 0
  have hbl := hB.setCell (p := ⟨p, 1, none⟩) hp (.int .i64 ((0 : Nat) : Int))
  have wm : IntKind.u64.wrap (m : Int) = (m : Int) := by rw [IntKind.wrap_u64]; omega
  have d1 : (w.setCell ⟨p, 1, none⟩ (.int .i64 ((0 : Nat) : Int))).cell? ⟨p, 0, none⟩ = some (.int .i64 m) := hst.cells.1
  have hmin : min (0 : Int) (m : Int) = 0 := by omega
  have FIN : Hid (ReadP T i W0 p m b (w.setCell ⟨p, 1, none⟩ (.int .i64 ((0 : Nat) : Int)))) := Lib.hid ⟨⟨m, 0, []⟩, ⟨h1, h64, Nat.zero_le _, Nat.zero_le _, (fun q hq => by cases hq), Int.le_refl _⟩, rfl, Nat.zero_le _, hst, hbl⟩
  simp only [Int.natCast_zero] at d1 FIN
  clear hst hbl h hp hB f0 h1 h64
  go_enter Try.func36, Try.ntmps36
  go_wp2_with fail
  refine (KE _).out.mono ?_
  rintro e w1 ⟨rfl, rfl⟩
  go_wp2_with fail
  refine (KE _).out.mono ?_
  rintro e w1 ⟨rfl, rfl⟩
  clear KE c0 c1 c2 f1
  go_wp2_with fail
  refine wp_loop_rounds 1 ?_
  rw [rounds_succ]
  go_wp2_with fail
  go_end0
  exact ⟨rfl, FIN⟩

/-- sketches whose bytes Load takes -/
def OkV (m : Nat) (V : HV) : Prop := V.Good ∧ V.m = m ∧ V.n ≤ 1099511627776 ∧ Asc V.L ∧ ∀ q ∈ V.L, InI q.1 ∧ InI q.2
/-- what Load leaves, whatever the bytes -/
def LoadG (w0 : World) (E : List (Nat × Thing)) (i m : Nat) (l : List UInt8) (e : Ending) (w' : World) : Prop :=
  (∃ V p, OkV m V ∧ l = V.bytes ∧ e = .returned (.tuple #[.pointer (some ⟨p, 0, none⟩), .int .i64 0]) ∧ Side w0 ((i, Hk p V) :: E) w') ∨
  ((∀ V, OkV m V → l ≠ V.bytes) ∧ e = .returned (.tuple #[.pointer none, .int .i64 8]) ∧ Side w0 E w')

set_option maxHeartbeats 3200000 in
theorem load_none {w0 W : World} {E : List (Nat × Thing)} (h : Side w0 E W) (i m : Nat) (h1 : 1 ≤ m) (h64 : m ≤ 64) {a : Option Addr} {bn bc : Nat} {l : List UInt8} (hH : Holds W (.slice a bn bc) (u8s l)) (hbn : bn ≤ 100000) (hno : ∀ V, OkV m V → l ≠ V.bytes) :
    Calls Try.prog 19 #[.int .i64 m, .slice a bn bc] W fun e w' => e = .returned (.tuple #[.pointer none, .int .i64 8]) ∧ Hid (Side w0 E w') := by
  obtain ⟨T, hT⟩ := h
  have KN := new_at (w := W) h1 h64
  obtain ⟨w1, hw1⟩ : ∃ w1, (W.alloc (.map #[] 0)).alloc (.cells #[.int .i64 m, .int .i64 0, .map (some W.heap.size)] 57) = w1 := ⟨_, rfl⟩
  have hB1 : Below W.heap.size W w1 := by rw [← hw1]; exact ((Below.refl _ W).alloc (Nat.le_refl _) _).alloc (by simp) _
  have hk1 : HkAt (T.one W.heap.size (some i)) i w1 (W.heap.size + 1) m 0 W.heap.size [] := by
    rw [← hw1]
    refine ⟨?_, by unfold Tags.one; rw [if_neg (by omega)], ?_, by unfold Tags.one; rw [if_neg (by omega)]⟩
    · have := heap_alloc_new (W.alloc (.map #[] 0)) (.cells #[.int .i64 m, .int .i64 0, .map (some W.heap.size)] 57)
      rw [World.size_alloc] at this
      exact this
    · exact (MapAt.made W).of_block (heap_alloc_old _ _ (by simp))
  rw [hw1] at KN
  have KR : Calls Try.prog 36 #[.pointer (some ⟨W.heap.size + 1, 0, none⟩), .slice a bn bc] w1 fun e w' => e = .returned (.tuple #[]) ∧ Hid (ReadP (T.one W.heap.size (some i)) i W (W.heap.size + 1) m W.heap.size w') := by
    cases a with
    | some ad => exact read_gen hk1 h1 h64 (by omega) (Nat.le_refl _) hB1 hH hbn
    | none =>
      obtain ⟨a', c', e, _, hc⟩ := hH
      rcases hc with ⟨rfl, hl, rfl⟩ | ⟨ad, rfl, _⟩
      · rw [hl] at e
        cases e
        exact read_nil hk1 h1 h64 (by omega) hB1
      · cases e
  have HT := Lib.hid hT
  have HH := Lib.hid hH
  have HNO := Lib.hid hno
  clear hw1 hB1 hk1 hT hH hno h1 h64
  go_enter Try.func19, Try.ntmps19
  go_wp2_with fail
  refine KN.mono ?_
  rintro e w' ⟨rfl, rfl⟩
  clear KN
  go_wp2_with fail
  refine KR.mono ?_
  rintro e w2 ⟨rfl, hR⟩
  obtain ⟨p, hp⟩ : ∃ p, W.heap.size + 1 = p := ⟨_, rfl⟩
  rw [hp] at hR ⊢
  obtain ⟨V, hG, hVm, hVn, hA, hB⟩ := hR.out
  subst hVm
  have HK : Hid (Hk p V (T.one W.heap.size (some i)) i w2) := Lib.hid ⟨_, hA, hG⟩
  have HB2 := Lib.hid hB
  have hne : decide (V.bytes = l) = false := decide_eq_false fun e => HNO.out V ⟨hG, rfl, hVn, hA.map.asc, hA.map.inI⟩ e.symm
  have KB := bytes_any HK.out
  clear KR hR hp hG hVn hA hB HNO
  go_wp2_with fail
  refine KB.mono ?_
  rintro e w3 ⟨v, rfl, ho, hb⟩
  have HB3 := Lib.hid (HB2.out.trans (hb.mono HB2.out.size))
  have HS : Hid (Side w0 E w3) := Lib.hid ⟨T, HT.out.below HB3.out⟩
  have KE := equal_any (Holds.of_row (by rw [u8s_len]; exact ho)) (HH.out.below HB3.out)
  rw [hne] at KE
  clear KB ho hb HK HB2 hne HB3
  go_wp2_with fail
  refine KE.mono ?_
  rintro e w4 ⟨rfl, rfl⟩
  clear KE
  go_wp2_with fail
  refine bodyPost_ret (v := .tuple #[.pointer none, .int .i64 8]) (by simp [results, Try.results19, go_sem]) rfl ?_
  exact ⟨rfl, HS⟩

theorem load_gen {w0 W : World} {E : List (Nat × Thing)} (h : Side w0 E W) (i m : Nat) (h1 : 1 ≤ m) (h64 : m ≤ 64) {a : Option Addr} {bn bc : Nat} {l : List UInt8} (hH : Holds W (.slice a bn bc) (u8s l)) (hbn : bn ≤ 100000) :
    Calls Try.prog 19 #[.int .i64 m, .slice a bn bc] W (LoadG w0 E i m l) := by
  by_cases hx : ∃ V, OkV m V ∧ l = V.bytes
  · obtain ⟨V, ok, rfl⟩ := hx
    obtain ⟨hG, rfl, hn, hA, hI⟩ := ok
    have hl := hH.len.1
    rw [u8s_len] at hl
    obtain ⟨ad, rfl⟩ := hH.ptr (by have := bytes_pos V; omega)
    refine (load_any h i hG hn hA hI (tail := []) (by rw [List.append_nil]; exact hH) hbn).mono ?_
    rintro e w2 ⟨h | h, _⟩
    · obtain ⟨_, q, e1, h2⟩ := h
      exact .inl ⟨V, q, ⟨hG, rfl, hn, hA, hI⟩, rfl, e1, h2⟩
    · exact absurd rfl h.1
  · have hno : ∀ V, OkV m V → l ≠ V.bytes := fun V ok e => hx ⟨V, ok, e⟩
    exact (load_none h i m h1 h64 hH hbn hno).mono fun e w' ⟨a, b⟩ => .inr ⟨hno, a, b.out⟩
theorem load_arg {W : World} {m : Int} (h : m < 1 ∨ 64 < m) (v : Value) :
    Calls Try.prog 19 #[.int .i64 m, v] W fun e w' => e = .returned (.tuple #[.pointer none, .int .i64 2]) ∧ W = w' := by
  have K := new_no (w := W) h
  clear h
  go_enter Try.func19, Try.ntmps19
  go_wp2_with fail
  refine K.mono ?_
  rintro e w1 ⟨rfl, rfl⟩
  clear K
  go_wp2_with fail
  refine bodyPost_ret (v := .tuple #[.pointer none, .int .i64 2]) (by simp [results, Try.results19, go_sem]) rfl ?_
  exact ⟨rfl, rfl⟩
end Go.Proofs.Ytkmonecolkamjaa
