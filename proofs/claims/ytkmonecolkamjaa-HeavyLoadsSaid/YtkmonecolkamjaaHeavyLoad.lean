/- Contract of heavy's Load at the bytes of a sketch, and at those with more behind. Conditions: a sketch that was made, a total that Load takes. -/
import Derived.Test.YtkmonecolkamjaaHeavyRead
import Derived.Test.YtkmonecolkamjaaShelf
set_option maxRecDepth 100000
namespace Go.Proofs.Ytkmonecolkamjaa
open Go.RowKit Go.Maps Go.Sort Go.Shelf

theorem equal_any {w : World} {v1 v2 : Value} {l1 l2 : List UInt8} (h1 : Holds w v1 (u8s l1)) (h2 : Holds w v2 (u8s l2)) :
    Calls Try.prog 37 #[v1, v2] w fun e w' => e = .returned (.bool (decide (l1 = l2))) ∧ w = w' := by
  refine (Try.bytes_Equal_strs v1 v2 _ _ w (toStr h1) (toStr h2)).mono ?_
  rintro e w' ⟨rfl, rfl⟩
  refine ⟨ret_bool ?_, rfl⟩
  rw [Bool.eq_iff_iff]
  simp [Lib.toList_data]

set_option maxHeartbeats 1000000 in
theorem new_at {w : World} {m : Nat} (h1 : 1 ≤ m) (h2 : m ≤ 64) :
    Calls Try.prog 9 #[.int .i64 m] w fun e w' => e = .returned (.pointer (some ⟨w.heap.size + 1, 0, none⟩)) ∧ w' = (w.alloc (.map #[] 0)).alloc (.cells #[.int .i64 m, .int .i64 0, .map (some w.heap.size)] 57) := by
  have z1 : ¬ (m : Int) < 1 := by omega
  have z2 : ¬ (64 : Int) < (m : Int) := by omega
  have hmm := @run_makeMap Try.prog
  clear h1 h2
  go_enter Try.func9, Try.ntmps9
  go_wp2_with fail
  go_ret
  exact ⟨rfl, rfl⟩

/-- what Load leaves -/
def LoadAt (W w0 : World) (E : List (Nat × Thing)) (i : Nat) (V : HV) (tail : List UInt8) (e : Ending) (w' : World) : Prop :=
  ((tail = [] ∧ ∃ p, e = .returned (.tuple #[.pointer (some ⟨p, 0, none⟩), .int .i64 0]) ∧ Side w0 ((i, Hk p V) :: E) w') ∨ (tail ≠ [] ∧ e = .returned (.tuple #[.pointer none, .int .i64 8]) ∧ Side w0 E w')) ∧ Below W.heap.size W w'

set_option maxHeartbeats 3200000 in
theorem load_any {w0 W : World} {E : List (Nat × Thing)} (h : Side w0 E W) (i : Nat) {V : HV} (hG : V.Good) (hn : V.n ≤ 1099511627776) (hA : Asc V.L) (hI : ∀ q ∈ V.L, InI q.1 ∧ InI q.2)
    {ad : Addr} {bn bc : Nat} {tail : List UInt8} (hH : Holds W (.slice (some ad) bn bc) (u8s (V.bytes ++ tail))) (hbn : bn ≤ 100000) :
    Calls Try.prog 19 #[.int .i64 V.m, .slice (some ad) bn bc] W (LoadAt W w0 E i V tail) := by
  obtain ⟨T, hT⟩ := h
  have KN := new_at (w := W) hG.m1 hG.m64
  obtain ⟨w1, hw1⟩ : ∃ w1, (W.alloc (.map #[] 0)).alloc (.cells #[.int .i64 V.m, .int .i64 0, .map (some W.heap.size)] 57) = w1 := ⟨_, rfl⟩
  have hB1 : Below W.heap.size W w1 := by rw [← hw1]; exact ((Below.refl _ W).alloc (Nat.le_refl _) _).alloc (by simp) _
  have hk1 : HkAt (T.one W.heap.size (some i)) i w1 (W.heap.size + 1) V.m 0 W.heap.size [] := by
    rw [← hw1]
    refine ⟨?_, by unfold Tags.one; rw [if_neg (by omega)], ?_, by unfold Tags.one; rw [if_neg (by omega)]⟩
    · have := heap_alloc_new (W.alloc (.map #[] 0)) (.cells #[.int .i64 V.m, .int .i64 0, .map (some W.heap.size)] 57)
      rw [World.size_alloc] at this
      exact this
    · exact (MapAt.made W).of_block (heap_alloc_old _ _ (by simp))
  rw [hw1] at KN
  have KR := read_any hk1 (by omega) (Nat.le_refl _) hB1 hG rfl hn hA hI hH hbn
  have HT := Lib.hid hT
  have HG := Lib.hid hG
  have HH := Lib.hid hH
  clear hw1 hB1 hk1 hT hG hn hA hI hH
  go_enter Try.func19, Try.ntmps19
  go_wp2_with fail
  refine KN.mono ?_
  rintro e w' ⟨rfl, rfl⟩
  clear KN
  go_wp2_with fail
  refine KR.mono ?_
  rintro e w2 ⟨rfl, hR⟩
  obtain ⟨p, hp⟩ : ∃ p, W.heap.size + 1 = p := ⟨_, rfl⟩
  rw [hp] at hR ⊢
  have HK : Hid (Hk p V (T.one W.heap.size (some i)) i w2) := Lib.hid ⟨_, hR.out.1, HG.out⟩
  have HB2 := Lib.hid hR.out.2
  have KB := bytes_any HK.out
  clear KR hR hp
  go_wp2_with fail
  refine KB.mono ?_
  rintro e w3 ⟨v, rfl, ho, hb⟩
  have HB3 := Lib.hid (HB2.out.trans (hb.mono HB2.out.size))
  have HS : Hid (Side w0 ((i, Hk p V) :: E) w3) := Lib.hid (Side.add HT.out (T.one_next W (some i)) HB3.out (Hk.framed p V) (Hk.framed p V _ _ i w2 w3 HK.out (fun _ _ => rfl) (fun k hk _ => hb.block k hk)))
  have KE := equal_any (Holds.of_row (by rw [u8s_len]; exact ho)) (HH.out.below HB3.out)
  clear KB ho hb HK HB2
  by_cases ht : tail = []
  · have e1 : decide (V.bytes = V.bytes ++ tail) = true := decide_eq_true (by rw [ht]; simp)
    rw [e1] at KE
    have HP : Hid (LoadAt W w0 E i V tail (.returned (.tuple #[.pointer (some ⟨p, 0, none⟩), .int .i64 0])) w3) := Lib.hid ⟨.inl ⟨ht, p, rfl, HS.out⟩, HB3.out⟩
    clear e1 ht HS HB3
    go_wp2_with fail
    refine KE.mono ?_
    rintro e w4 ⟨rfl, rfl⟩
    clear KE
    go_wp2_with fail
    refine bodyPost_ret (v := .tuple #[.pointer (some ⟨p, 0, none⟩), .int .i64 0]) (by simp [results, Try.results19, go_sem]) rfl ?_
    exact HP.out
  · have e1 : decide (V.bytes = V.bytes ++ tail) = false := decide_eq_false (fun e => ht (by simpa using e))
    rw [e1] at KE
    have HP : Hid (LoadAt W w0 E i V tail (.returned (.tuple #[.pointer none, .int .i64 8])) w3) := Lib.hid ⟨.inr ⟨ht, rfl, HS.out.sub fun x hx => List.mem_cons_of_mem _ hx⟩, HB3.out⟩
    clear e1 ht HS HB3
    go_wp2_with fail
    refine KE.mono ?_
    rintro e w4 ⟨rfl, rfl⟩
    clear KE
    go_wp2_with fail
    refine bodyPost_ret (v := .tuple #[.pointer none, .int .i64 8]) (by simp [results, Try.results19, go_sem]) rfl ?_
    exact HP.out
end Go.Proofs.Ytkmonecolkamjaa
