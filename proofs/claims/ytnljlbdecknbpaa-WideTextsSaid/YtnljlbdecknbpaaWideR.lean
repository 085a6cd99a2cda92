/- Contract of read. Conditions: the text is no longer than any string. -/
import Derived.Test.YtnljlbdecknbpaaWideO
import Derived.Test.YtnljlbdecknbpaaWideP
import Derived.Test.YtnljlbdecknbpaaDigs
set_option maxRecDepth 100000
namespace Go.Proofs.Ytnljlbdecknbpaa
open Go.RowKit

/-- the answer in the first of two new boxes, the number so far in the second -/
def RS (w wr : World) (H L : Nat) : Prop :=
  wr.heap[w.heap.size]? = some (.cells #[.int .u64 0, .int .u64 0] 51 (0, 0)) ∧ wr.heap[w.heap.size + 1]? = some (.cells #[.int .u64 (H : Int), .int .u64 (L : Int)] 51 (0, 0)) ∧ Below w.heap.size w wr
theorem RS.size {w wr : World} {H L : Nat} (h : RS w wr H L) : w.heap.size + 1 < wr.heap.size := by
  have := h.2.1
  rcases Nat.lt_or_ge (w.heap.size + 1) wr.heap.size with hlt | hge
  · exact hlt
  · rw [Array.getElem?_eq_none hge] at this; cases this
theorem RS.next {w wr w1 : World} {H L : Nat} (h : RS w wr H L) (hb : Below wr.heap.size wr w1) : RS w w1 H L := by
  have hz := h.size
  exact ⟨by rw [hb.block _ (by omega)]; exact h.1, by rw [hb.block _ hz]; exact h.2.1, h.2.2.trans (hb.mono (by omega))⟩
theorem RS.cells {w wr : World} {H L : Nat} (h : RS w wr H L) : wr.cell? ⟨w.heap.size + 1, 0, none⟩ = some (.int .u64 (H : Int)) ∧ wr.cell? ⟨w.heap.size + 1, 1, none⟩ = some (.int .u64 (L : Int)) ∧ wr.frozen? ⟨w.heap.size + 1, 0, none⟩ = false ∧ wr.frozen? ⟨w.heap.size + 1, 1, none⟩ = false :=
  ⟨by rw [cell_of_row _ _ _ _ _ _ h.2.1]; rfl, by rw [cell_of_row _ _ _ _ _ _ h.2.1]; rfl, free_of_row h.2.1 0, free_of_row h.2.1 1⟩
theorem RS.res {w wr : World} {H L : Nat} (h : RS w wr H L) : wr.cell? ⟨w.heap.size, 0, none⟩ = some (.int .u64 0) ∧ wr.cell? ⟨w.heap.size, 1, none⟩ = some (.int .u64 0) ∧ wr.frozen? ⟨w.heap.size, 0, none⟩ = false ∧ wr.frozen? ⟨w.heap.size, 1, none⟩ = false :=
  ⟨by rw [cell_of_row _ _ _ _ _ _ h.1]; rfl, by rw [cell_of_row _ _ _ _ _ _ h.1]; rfl, free_of_row h.1 0, free_of_row h.1 1⟩
theorem RS.store {w wr : World} {H L : Nat} (h : RS w wr H L) (H2 L2 : Nat) : RS w ((wr.setCell ⟨w.heap.size + 1, 0, none⟩ (.int .u64 (H2 : Int))).setCell ⟨w.heap.size + 1, 1, none⟩ (.int .u64 (L2 : Int))) H2 L2 := by
  refine ⟨?_, ?_, (h.2.2.setCell (by simp) _).setCell (by simp) _⟩
  · rw [heap_far (by omega), heap_far (by omega)]; exact h.1
  · rw [heap_set (heap_set h.2.1 _)]; rfl
theorem RS.done {w wr : World} {H L : Nat} (h : RS w wr H L) (u v : Value) : Below w.heap.size w ((wr.setCell ⟨w.heap.size, 0, none⟩ u).setCell ⟨w.heap.size, 1, none⟩ v) := (h.2.2.setCell (by simp) _).setCell (by simp) _
theorem str_list (s : ByteArray) : s.toList = s.data.toList := by obtain ⟨⟨l⟩⟩ := s; simp
theorem str_size (s : ByteArray) : s.size = s.data.toList.length := by rw [Array.length_toList]; rfl
theorem str_at (s : ByteArray) (k : Nat) (h : k < s.size) : s[k] = s.data.toList[k]'(by rw [← str_size]; exact h) := by rw [Array.getElem_toList]; rfl
theorem notD {l : List UInt8} {k : Nat} (hk : k < l.length) (h : ¬ isD l[k]) : ∀ m, m < 340282366920938463463374607431768211456 → l ≠ digs m := fun m _ e => h (by subst e; exact digs_isD m _ (List.getElem_mem hk))
/-- what read tells of a text -/
def ReadP (l : List UInt8) (w : World) (e : Ending) (w' : World) : Prop :=
  ∃ (T S : Nat) (b : Bool), e = .returned (.tuple #[.agg #[.int .u64 (T : Int), .int .u64 (S : Int)], .bool b]) ∧ Below w.heap.size w w' ∧ T < 18446744073709551616 ∧ S < 18446744073709551616 ∧ (b = true → l = digs (T * 18446744073709551616 + S)) ∧ (b = false → ∀ m, m < 340282366920938463463374607431768211456 → l ≠ digs m)
theorem readP_no {l : List UInt8} {w w' : World} (hb : Below w.heap.size w w') (h : ∀ m, m < 340282366920938463463374607431768211456 → l ≠ digs m) : ReadP l w (.returned (.tuple #[.agg #[.int .u64 0, .int .u64 0], .bool false])) w' :=
  ⟨0, 0, false, rfl, hb, by decide, by decide, fun h => (by cases h), fun _ => h⟩

set_option maxHeartbeats 3200000 in
theorem read_any (s : ByteArray) (hsz : s.size < 9223372036854775807) (w : World) : Calls Try.prog 42 #[.string s] w (ReadP s.data.toList w) := by
  obtain ⟨l, hl⟩ : ∃ l, s.data.toList = l := ⟨_, rfl⟩
  have hlist := str_list s
  have hsize := str_size s
  have hat := str_at s
  rw [hl] at hlist hsize ⊢
  by_cases he : l = []
  · have e0 : s.toList = [] := by rw [hlist, he]
    have e1 : s.toList.isEmpty = true := by rw [e0]; rfl
    have HNo := Lib.hid (fun m (_ : m < 340282366920938463463374607431768211456) => (by rw [he]; exact (digs_ne m).symm : l ≠ digs m))
    clear hlist hsize hat he hl
    go_enter Try.func42, Try.ntmps42
    go_wp2_with fail
    refine bodyPost_ret (v := .tuple #[.agg #[.int .u64 0, .int .u64 0], .bool false]) (by simp [results, Try.results42, go_sem]) rfl (readP_no ((Below.refl _ _).alloc (Nat.le_refl _) _) HNo.out)
  · have h0 : 0 < s.size := by
      rw [hsize]; exact List.length_pos_iff.2 he
    obtain ⟨c0, hc0⟩ : ∃ c0 : Int, ((s[0].toNat : Nat) : Int) = c0 := ⟨_, rfl⟩
    have hc1 : c0 = ((l[0]'(by omega)).toNat : Int) := by rw [← hc0, hat 0 h0]; simp only [hl]
    have e0 : ¬ s.toList = [] := by rw [hlist]; exact he
    have e1 : s.toList.isEmpty = false := by rw [hlist]; cases l with
      | nil => exact absurd rfl he
      | cons => rfl
    have hhd : l.head? = some (l[0]'(by omega)) := by cases l with
      | nil => exact absurd rfl he
      | cons x k => rfl
    have h48 : c0 = 48 ↔ l.head? = some 48 := by
      rw [hhd, hc1]
      constructor
      · intro e; congr 1; apply UInt8.toNat_inj.1; have : (48 : UInt8).toNat = 48 := rfl; omega
      · intro e; have e := Option.some.inj e; rw [e]; rfl
    by_cases hA : c0 = 48 ∧ l ≠ [48]
    · have t0 : (c0 == 48) = true := by rw [hA.1]; rfl
      have t1 : (!s.toList == [48]) = true := by
        rw [hlist, Bool.not_eq_true', Bool.eq_false_iff]
        exact fun e => hA.2 (by simpa using e)
      have HNo := Lib.hid (fun m (_ : m < 340282366920938463463374607431768211456) => (fun e => hA.2 (by have := (digs_can m).2.2; rw [← e] at this; exact this (h48.1 hA.1)) : l ≠ digs m))
      clear hA h48 hhd hc1 hlist hsize hat he hl
      go_enter Try.func42, Try.ntmps42
      go_wp2_with fail
      refine bodyPost_ret (v := .tuple #[.agg #[.int .u64 0, .int .u64 0], .bool false]) (by simp [results, Try.results42, go_sem]) rfl (readP_no ((Below.refl _ _).alloc (Nat.le_refl _) _) HNo.out)
    · have HC := Lib.hid (show l.head? = some 48 → l = [48] from fun e => Classical.byContradiction fun hn => hA ⟨h48.2 e, hn⟩)
      have hB : ((c0 == 48) = true ∧ (!s.toList == [48]) = false) ∨ ((c0 == 48) = false) := by
        by_cases hc : c0 = 48
        · have : l = [48] := HC.out (h48.1 hc)
          exact .inl ⟨by rw [hc]; rfl, by rw [hlist, this]; rfl⟩
        · exact .inr (by rw [beq_eq_false_iff_ne]; exact hc)
      have hs0 : RS w ((w.alloc (.cells #[.int .u64 0, .int .u64 0] 51)).alloc (.cells #[.int .u64 0, .int .u64 0] 51)) 0 0 := ⟨(ds_new _ _ _).1, (ds_new _ _ _).2, two_new _ _ _⟩
      have HS0 := Lib.hid hs0
      obtain ⟨n, hn⟩ : ∃ n, s.size = n := ⟨_, rfl⟩
      have hln : l.length = n := by omega
      have HAT := Lib.hid (show ∀ (k : Nat) (hk : k < s.size), l[k]? = some s[k] from fun k hk => by rw [hat k hk, ← hl, List.getElem?_eq_getElem])
      have HE := Lib.hid he
      have HLN := Lib.hid hln
      have hn1 : n < 9223372036854775807 := by omega
      clear hA h48 hhd hc1 hlist hsize hat he hl hs0 hln hsz
      rcases hB with ⟨t0, t1⟩ | t0
      all_goals
        go_enter Try.func42, Try.ntmps42
        go_wp2_with fail
        go_loopw [22] (fun i wr => ∃ (k H L : Nat), k ≤ n ∧ i = .int .i64 (k : Int) ∧ Hid (RS w wr H L ∧ H < 18446744073709551616 ∧ L < 18446744073709551616 ∧ H * 18446744073709551616 + L = valD (l.take k) ∧ ∀ c ∈ l.take k, isD c)) (fun i _ => n - (intOf i).toNat)
        case atStart => exact ⟨0, 0, 0, by omega, rfl, Lib.hid ⟨HS0.out, by decide, by decide, rfl, fun c hc => by simp at hc⟩⟩
        case round =>
          obtain ⟨k, H, L, hk, rfl, HR⟩ := hrel
          by_cases hlt : k < n
          · have hks : k < s.size := by omega
            have hkl : k < l.length := by rw [HLN.out]; exact hlt
            have hlk : s[k] = l[k] := by have := HAT.out k hks; rw [List.getElem?_eq_getElem hkl] at this; exact (Option.some.inj this).symm
            have hcell := HR.out.1.cells
            have hres := HR.out.1.res
            have hr1 := fun u => (set_two hres.1 hres.2.1 u u).1
            have hr2 := fun u v => (set_two hres.1 hres.2.1 u v).2
            have HB := Lib.hid HR.out.1.done
            have hx := l[k].toNat_lt
            by_cases hD : isD l[k]
            · obtain ⟨d, hd⟩ : ∃ d : Nat, l[k].toNat = 48 + d := ⟨l[k].toNat - 48, by have := hD.1; omega⟩
              have hd10 : d < 10 := by have := hD.2; omega
              have hc : ((s[k].toNat : Nat) : Int) = 48 + (d : Int) := by rw [hlk, hd]; omega
              have K := fun w => grown_any H L d w HR.out.2.1 HR.out.2.2.1 hd10
              have HV := HR.out.2.2.2.1
              have hvs := valD_take_succ l k hkl
              rw [hd, Nat.add_sub_cancel_left, ← HV] at hvs
              rw [← hvs] at K
              simp only [show ∀ w, Calls Try.prog 49 #[.agg #[.int .u64 (H : Int), .int .u64 (L : Int)], .int .u8 (d : Int)] w = Calls Try.prog 49 #[.agg #[.int .u64 (H : Int), .int .u64 (L : Int)], .int .u8 (48 + (d : Int) - 48)] w from fun w => by rw [show (48 : Int) + (d : Int) - 48 = (d : Int) by omega]] at K
              have HVS := Lib.hid (And.intro hvs (valD_mono l (k + 1)))
              have HDS := Lib.hid (show ∀ c ∈ l.take (k + 1), isD c from fun c hc => by
                rw [← List.take_append_getElem hkl, List.mem_append, List.mem_singleton] at hc
                rcases hc with hc | hc
                · exact HR.out.2.2.2.2 c hc
                · rw [hc]; exact hD)
              have HS1 := Lib.hid HR.out.1
              clear HV hvs hd hD hlk hx HR hr1 hr2 hres HB
              obtain ⟨V, hV⟩ : ∃ V, valD (l.take (k + 1)) = V := ⟨_, rfl⟩
              rw [hV] at K
              by_cases hfit : V < 340282366920938463463374607431768211456
              · rw [decide_eq_true hfit] at K
                go_wp2_with fail
                refine (K _).mono ?_
                rintro e w1 ⟨T, S, rfl, hT, hS, hTS, b1⟩
                have d1 := HS1.out.next b1
                have hc1 := d1.cells
                have HD2 := Lib.hid (d1.store T S)
                have HT := Lib.hid (hTS hfit)
                clear hTS b1 d1 K hcell hfit
                go_wp2_with fail
                go_roundw
                case rel => exact ⟨k + 1, T, S, by omega, by go_num, Lib.hid ⟨HD2.out, hT, hS, by rw [HT.out, hV], HDS.out⟩⟩
                case measure => first | (simp [intOf]; done) | (simp [intOf]; omega)
              · rw [decide_eq_false hfit] at K
                have HNo := Lib.hid (fun m (hm : m < 340282366920938463463374607431768211456) => (fun e => hfit (by have := HVS.out.2; rw [hV, e, digs_val] at this; omega) : l ≠ digs m))
                go_wp2_with fail
                refine (K _).mono ?_
                rintro e w1 ⟨T, S, rfl, hT, hS, hTS, b1⟩
                have d1 := HS1.out.next b1
                have hc1 := d1.cells
                have d2 := d1.store T S
                have hres := d2.res
                have hr1 := fun u => (set_two hres.1 hres.2.1 u u).1
                have hr2 := fun u v => (set_two hres.1 hres.2.1 u v).2
                have HB := Lib.hid d2.done
                clear hTS b1 d1 d2 K hcell hfit hT hS
                go_wp2_with fail
                refine bodyPost_ret (v := .tuple #[.agg #[.int .u64 0, .int .u64 0], .bool false]) (by simp [results, Try.results42, go_sem, hr1, hr2]) rfl (readP_no (HB.out _ _) HNo.out)
            · have HNo := Lib.hid (notD hkl hD)
              have hD2 : l[k].toNat < 48 ∨ (¬ l[k].toNat < 48 ∧ 57 < l[k].toNat) := by unfold isD at hD; omega
              obtain ⟨c, hc⟩ : ∃ c : Int, ((s[k].toNat : Nat) : Int) = c := ⟨_, rfl⟩
              rw [hlk] at hc
              have hcs : (c < 48) ∨ (¬ c < 48 ∧ 57 < c) := by omega
              rw [← hlk] at hc
              clear hD hD2 hx hlk HR hcell
              rcases hcs with hcs | ⟨hcs, hcs2⟩
              all_goals
                go_wp2_with fail
                refine bodyPost_ret (v := .tuple #[.agg #[.int .u64 0, .int .u64 0], .bool false]) (by simp [results, Try.results42, go_sem, hr1, hr2]) rfl (readP_no (HB.out _ _) HNo.out)
          · have hkn : k = n := by omega
            have hcell := HR.out.1.cells
            have hres := HR.out.1.res
            have hr1 := fun u => (set_two hres.1 hres.2.1 u u).1
            have hr2 := fun u v => (set_two hres.1 hres.2.1 u v).2
            have HB := Lib.hid HR.out.1.done
            have HF := Lib.hid (show l = digs (H * 18446744073709551616 + L) by
              have h1 := HR.out.2.2.2.1
              have h2 := HR.out.2.2.2.2
              rw [hkn, ← HLN.out, List.take_length] at h1 h2
              rw [h1, digs_back l ⟨HE.out, h2, HC.out⟩])
            have HHL := Lib.hid (And.intro HR.out.2.1 HR.out.2.2.1)
            clear HR
            go_wp2_with fail
            refine bodyPost_ret (v := .tuple #[.agg #[.int .u64 (H : Int), .int .u64 (L : Int)], .bool true]) (by simp [results, Try.results42, go_sem, hr1, hr2]) rfl ⟨H, L, true, rfl, HB.out _ _, HHL.out.1, HHL.out.2, fun _ => HF.out, fun h => by cases h⟩
end Go.Proofs.Ytnljlbdecknbpaa
