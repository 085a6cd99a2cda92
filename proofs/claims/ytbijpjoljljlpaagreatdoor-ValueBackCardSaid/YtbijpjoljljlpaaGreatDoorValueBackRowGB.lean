/- The texts WideR FieldE Divide WideQ, one behind the other; each one's own comment says what it holds. -/
import Derived.Test.YtbijpjoljljlpaaGreatDoorValueBackRowGA
/- Contract of read. Conditions: the text is no longer than any string. -/
set_option maxRecDepth 100000
namespace Go.Proofs.YtbijpjoljljlpaaGreatDoor.Wide
open Go.RowKit

/-- the answer in the first of two new boxes, the number so far in the second -/
def RS (w wr : World) (H L : Nat) : Prop :=
  wr.heap[w.heap.size]? = some (.cells #[.int .u64 0, .int .u64 0] 78 (0, 0)) ∧ wr.heap[w.heap.size + 1]? = some (.cells #[.int .u64 (H : Int), .int .u64 (L : Int)] 78 (0, 0)) ∧ Below w.heap.size w wr
theorem RS.size {w wr : World} {H L : Nat} (h : RS w wr H L) : w.heap.size + 1 < wr.heap.size := by
  have := h.2.1
  rcases Nat.lt_or_ge (w.heap.size + 1) wr.heap.size with hlt | hge
  · exact hlt
  · rw [Array.getElem?_eq_none hge] at this; cases this
theorem RS.next {w wr w1 : World} {H L : Nat} (h : RS w wr H L) (hb : Below wr.heap.size wr w1) : RS w w1 H L := by
  have hz := h.size
  exact ⟨by rw [hb.block _ (by omega)]; exact h.1, by rw [hb.block _ hz]; exact h.2.1, h.2.2.trans (hb.mono (by omega))⟩
theorem RS.cells {w wr : World} {H L : Nat} (h : RS w wr H L) : wr.cell? ⟨w.heap.size + 1, 0, none⟩ = some (.int .u64 (H : Int)) ∧ wr.cell? ⟨w.heap.size + 1, 1, none⟩ = some (.int .u64 (L : Int)) ∧ wr.frozen? ⟨w.heap.size + 1, 0, none⟩ = false ∧ wr.frozen? ⟨w.heap.size + 1, 1, none⟩ = false :=
  ⟨by rw [cell_of_row _ _ _ _ _ _ h.2.1]; rfl, by rw [cell_of_row _ _ _ _ _ _ h.2.1]; rfl, free_of_row h.2.1 0, free_of_row h.2.1 1⟩
theorem RS.res {w wr : World} {H L : Nat} (h : RS w wr H L) : wr.cell? ⟨w.heap.size, 0, none⟩ = some (.int .u64 0) ∧ wr.cell? ⟨w.heap.size, 1, none⟩ = some (.int .u64 0) ∧ wr.frozen? ⟨w.heap.size, 0, none⟩ = false ∧ wr.frozen? ⟨w.heap.size, 1, none⟩ = false :=
  ⟨by rw [cell_of_row _ _ _ _ _ _ h.1]; rfl, by rw [cell_of_row _ _ _ _ _ _ h.1]; rfl, free_of_row h.1 0, free_of_row h.1 1⟩
theorem RS.store {w wr : World} {H L : Nat} (h : RS w wr H L) (H2 L2 : Nat) : RS w ((wr.setCell ⟨w.heap.size + 1, 0, none⟩ (.int .u64 (H2 : Int))).setCell ⟨w.heap.size + 1, 1, none⟩ (.int .u64 (L2 : Int))) H2 L2 := by
  refine ⟨?_, ?_, (h.2.2.setCell (by simp) _).setCell (by simp) _⟩
  · rw [heap_far (by omega), heap_far (by omega)]; exact h.1
  · rw [heap_set (heap_set h.2.1 _)]; rfl
theorem RS.done {w wr : World} {H L : Nat} (h : RS w wr H L) (u v : Value) : Below w.heap.size w ((wr.setCell ⟨w.heap.size, 0, none⟩ u).setCell ⟨w.heap.size, 1, none⟩ v) := (h.2.2.setCell (by simp) _).setCell (by simp) _
theorem str_list (s : ByteArray) : s.toList = s.data.toList := by obtain ⟨⟨l⟩⟩ := s; simp
theorem str_size (s : ByteArray) : s.size = s.data.toList.length := by rw [Array.length_toList]; rfl
theorem str_at (s : ByteArray) (k : Nat) (h : k < s.size) : s[k] = s.data.toList[k]'(by rw [← str_size]; exact h) := by rw [Array.getElem_toList]; rfl
theorem notD {l : List UInt8} {k : Nat} (hk : k < l.length) (h : ¬ isD l[k]) : ∀ m, m < 340282366920938463463374607431768211456 → l ≠ digs m := fun m _ e => h (by subst e; exact digs_isD m _ (List.getElem_mem hk))
/-- what read tells of a text -/
def ReadP (l : List UInt8) (w : World) (e : Ending) (w' : World) : Prop :=
  ∃ (T S : Nat) (b : Bool), e = .returned (.tuple #[.agg #[.int .u64 (T : Int), .int .u64 (S : Int)], .bool b]) ∧ Below w.heap.size w w' ∧ T < 18446744073709551616 ∧ S < 18446744073709551616 ∧ (b = true → l = digs (T * 18446744073709551616 + S)) ∧ (b = false → ∀ m, m < 340282366920938463463374607431768211456 → l ≠ digs m)
theorem readP_no {l : List UInt8} {w w' : World} (hb : Below w.heap.size w w') (h : ∀ m, m < 340282366920938463463374607431768211456 → l ≠ digs m) : ReadP l w (.returned (.tuple #[.agg #[.int .u64 0, .int .u64 0], .bool false])) w' :=
  ⟨0, 0, false, rfl, hb, by decide, by decide, fun h => (by cases h), fun _ => h⟩

set_option maxHeartbeats 3200000 in
theorem read_any (s : ByteArray) (hsz : s.size < 9223372036854775807) (w : World) : Calls Tryz.prog 38 #[.string s] w (ReadP s.data.toList w) := by
  obtain ⟨l, hl⟩ : ∃ l, s.data.toList = l := ⟨_, rfl⟩
  have hlist := str_list s
  have hsize := str_size s
  have hat := str_at s
  rw [hl] at hlist hsize ⊢
  by_cases he : l = []
  · have e0 : s.toList = [] := by rw [hlist, he]
    have e1 : s.toList.isEmpty = true := by rw [e0]; rfl
    have HNo := Lib.hid (fun m (_ : m < 340282366920938463463374607431768211456) => (by rw [he]; exact (digs_ne m).symm : l ≠ digs m))
    clear hlist hsize hat he hl
    go_enter Tryz.func38, Tryz.ntmps38
    go_wp2_with fail
    refine bodyPost_ret (v := .tuple #[.agg #[.int .u64 0, .int .u64 0], .bool false]) (by simp [results, Tryz.results38, go_sem]) rfl (readP_no ((Below.refl _ _).alloc (Nat.le_refl _) _) HNo.out)
  · have h0 : 0 < s.size := by
      rw [hsize]; exact List.length_pos_iff.2 he
    obtain ⟨c0, hc0⟩ : ∃ c0 : Int, ((s[0].toNat : Nat) : Int) = c0 := ⟨_, rfl⟩
    have hc1 : c0 = ((l[0]'(by omega)).toNat : Int) := by rw [← hc0, hat 0 h0]; simp only [hl]
    have e0 : ¬ s.toList = [] := by rw [hlist]; exact he
    have e1 : s.toList.isEmpty = false := by rw [hlist]; cases l with
      | nil => exact absurd rfl he
      | cons => rfl
    have hhd : l.head? = some (l[0]'(by omega)) := by cases l with
      | nil => exact absurd rfl he
      | cons x k => rfl
    have h48 : c0 = 48 ↔ l.head? = some 48 := by
      rw [hhd, hc1]
      constructor
      · intro e; congr 1; apply UInt8.toNat_inj.1; have : (48 : UInt8).toNat = 48 := rfl; omega
      · intro e; have e := Option.some.inj e; rw [e]; rfl
    by_cases hA : c0 = 48 ∧ l ≠ [48]
    · have t0 : (c0 == 48) = true := by rw [hA.1]; rfl
      have t1 : (!s.toList == [48]) = true := by
        rw [hlist, Bool.not_eq_true', Bool.eq_false_iff]
        exact fun e => hA.2 (by simpa using e)
      have HNo := Lib.hid (fun m (_ : m < 340282366920938463463374607431768211456) => (fun e => hA.2 (by have := (digs_can m).2.2; rw [← e] at this; exact this (h48.1 hA.1)) : l ≠ digs m))
      clear hA h48 hhd hc1 hlist hsize hat he hl
      go_enter Tryz.func38, Tryz.ntmps38
      go_wp2_with fail
      refine bodyPost_ret (v := .tuple #[.agg #[.int .u64 0, .int .u64 0], .bool false]) (by simp [results, Tryz.results38, go_sem]) rfl (readP_no ((Below.refl _ _).alloc (Nat.le_refl _) _) HNo.out)
    · have HC := Lib.hid (show l.head? = some 48 → l = [48] from fun e => Classical.byContradiction fun hn => hA ⟨h48.2 e, hn⟩)
      have hB : ((c0 == 48) = true ∧ (!s.toList == [48]) = false) ∨ ((c0 == 48) = false) := by
        by_cases hc : c0 = 48
        · have : l = [48] := HC.out (h48.1 hc)
          exact .inl ⟨by rw [hc]; rfl, by rw [hlist, this]; rfl⟩
        · exact .inr (by rw [beq_eq_false_iff_ne]; exact hc)
      have hs0 : RS w ((w.alloc (.cells #[.int .u64 0, .int .u64 0] 78)).alloc (.cells #[.int .u64 0, .int .u64 0] 78)) 0 0 := ⟨(ds_new _ _ _).1, (ds_new _ _ _).2, two_new _ _ _⟩
      have HS0 := Lib.hid hs0
      obtain ⟨n, hn⟩ : ∃ n, s.size = n := ⟨_, rfl⟩
      have hln : l.length = n := by omega
      have HAT := Lib.hid (show ∀ (k : Nat) (hk : k < s.size), l[k]? = some s[k] from fun k hk => by rw [hat k hk, ← hl, List.getElem?_eq_getElem])
      have HE := Lib.hid he
      have HLN := Lib.hid hln
      have hn1 : n < 9223372036854775807 := by omega
      clear hA h48 hhd hc1 hlist hsize hat he hl hs0 hln hsz
      rcases hB with ⟨t0, t1⟩ | t0
      all_goals
        go_enter Tryz.func38, Tryz.ntmps38
        go_wp2_with fail
        go_loopw [22] (fun i wr => ∃ (k H L : Nat), k ≤ n ∧ i = .int .i64 (k : Int) ∧ Hid (RS w wr H L ∧ H < 18446744073709551616 ∧ L < 18446744073709551616 ∧ H * 18446744073709551616 + L = valD (l.take k) ∧ ∀ c ∈ l.take k, isD c)) (fun i _ => n - (intOf i).toNat)
        case atStart => exact ⟨0, 0, 0, by omega, rfl, Lib.hid ⟨HS0.out, by decide, by decide, rfl, fun c hc => by simp at hc⟩⟩
        case round =>
          obtain ⟨k, H, L, hk, rfl, HR⟩ := hrel
          by_cases hlt : k < n
          · have hks : k < s.size := by omega
            have hkl : k < l.length := by rw [HLN.out]; exact hlt
            have hlk : s[k] = l[k] := by have := HAT.out k hks; rw [List.getElem?_eq_getElem hkl] at this; exact (Option.some.inj this).symm
            have hcell := HR.out.1.cells
            have hres := HR.out.1.res
            have hr1 := fun u => (set_two hres.1 hres.2.1 u u).1
            have hr2 := fun u v => (set_two hres.1 hres.2.1 u v).2
            have HB := Lib.hid HR.out.1.done
            have hx := l[k].toNat_lt
            by_cases hD : isD l[k]
            · obtain ⟨d, hd⟩ : ∃ d : Nat, l[k].toNat = 48 + d := ⟨l[k].toNat - 48, by have := hD.1; omega⟩
              have hd10 : d < 10 := by have := hD.2; omega
              have hc : ((s[k].toNat : Nat) : Int) = 48 + (d : Int) := by rw [hlk, hd]; omega
              have K := fun w => grown_any H L d w HR.out.2.1 HR.out.2.2.1 hd10
              have HV := HR.out.2.2.2.1
              have hvs := valD_take_succ l k hkl
              rw [hd, Nat.add_sub_cancel_left, ← HV] at hvs
              rw [← hvs] at K
              simp only [show ∀ w, Calls Tryz.prog 55 #[.agg #[.int .u64 (H : Int), .int .u64 (L : Int)], .int .u8 (d : Int)] w = Calls Tryz.prog 55 #[.agg #[.int .u64 (H : Int), .int .u64 (L : Int)], .int .u8 (48 + (d : Int) - 48)] w from fun w => by rw [show (48 : Int) + (d : Int) - 48 = (d : Int) by omega]] at K
              have HVS := Lib.hid (And.intro hvs (valD_mono l (k + 1)))
              have HDS := Lib.hid (show ∀ c ∈ l.take (k + 1), isD c from fun c hc => by
                rw [← List.take_append_getElem hkl, List.mem_append, List.mem_singleton] at hc
                rcases hc with hc | hc
                · exact HR.out.2.2.2.2 c hc
                · rw [hc]; exact hD)
              have HS1 := Lib.hid HR.out.1
              clear HV hvs hd hD hlk hx HR hr1 hr2 hres HB
              obtain ⟨V, hV⟩ : ∃ V, valD (l.take (k + 1)) = V := ⟨_, rfl⟩
              rw [hV] at K
              by_cases hfit : V < 340282366920938463463374607431768211456
              · rw [decide_eq_true hfit] at K
                go_wp2_with fail
                refine (K _).mono ?_
                rintro e w1 ⟨T, S, rfl, hT, hS, hTS, b1⟩
                have d1 := HS1.out.next b1
                have hc1 := d1.cells
                have HD2 := Lib.hid (d1.store T S)
                have HT := Lib.hid (hTS hfit)
                clear hTS b1 d1 K hcell hfit
                go_wp2_with fail
                go_roundw
                case rel => exact ⟨k + 1, T, S, by omega, by go_num, Lib.hid ⟨HD2.out, hT, hS, by rw [HT.out, hV], HDS.out⟩⟩
                case measure => first | (simp [intOf]; done) | (simp [intOf]; omega)
              · rw [decide_eq_false hfit] at K
                have HNo := Lib.hid (fun m (hm : m < 340282366920938463463374607431768211456) => (fun e => hfit (by have := HVS.out.2; rw [hV, e, digs_val] at this; omega) : l ≠ digs m))
                go_wp2_with fail
                refine (K _).mono ?_
                rintro e w1 ⟨T, S, rfl, hT, hS, hTS, b1⟩
                have d1 := HS1.out.next b1
                have hc1 := d1.cells
                have d2 := d1.store T S
                have hres := d2.res
                have hr1 := fun u => (set_two hres.1 hres.2.1 u u).1
                have hr2 := fun u v => (set_two hres.1 hres.2.1 u v).2
                have HB := Lib.hid d2.done
                clear hTS b1 d1 d2 K hcell hfit hT hS
                go_wp2_with fail
                refine bodyPost_ret (v := .tuple #[.agg #[.int .u64 0, .int .u64 0], .bool false]) (by simp [results, Tryz.results38, go_sem, hr1, hr2]) rfl (readP_no (HB.out _ _) HNo.out)
            · have HNo := Lib.hid (notD hkl hD)
              have hD2 : l[k].toNat < 48 ∨ (¬ l[k].toNat < 48 ∧ 57 < l[k].toNat) := by unfold isD at hD; omega
              obtain ⟨c, hc⟩ : ∃ c : Int, ((s[k].toNat : Nat) : Int) = c := ⟨_, rfl⟩
              rw [hlk] at hc
              have hcs : (c < 48) ∨ (¬ c < 48 ∧ 57 < c) := by omega
              rw [← hlk] at hc
              clear hD hD2 hx hlk HR hcell
              rcases hcs with hcs | ⟨hcs, hcs2⟩
              all_goals
                go_wp2_with fail
                refine bodyPost_ret (v := .tuple #[.agg #[.int .u64 0, .int .u64 0], .bool false]) (by simp [results, Tryz.results38, go_sem, hr1, hr2]) rfl (readP_no (HB.out _ _) HNo.out)
          · have hkn : k = n := by omega
            have hcell := HR.out.1.cells
            have hres := HR.out.1.res
            have hr1 := fun u => (set_two hres.1 hres.2.1 u u).1
            have hr2 := fun u v => (set_two hres.1 hres.2.1 u v).2
            have HB := Lib.hid HR.out.1.done
            have HF := Lib.hid (show l = digs (H * 18446744073709551616 + L) by
              have h1 := HR.out.2.2.2.1
              have h2 := HR.out.2.2.2.2
              rw [hkn, ← HLN.out, List.take_length] at h1 h2
              rw [h1, digs_back l ⟨HE.out, h2, HC.out⟩])
            have HHL := Lib.hid (And.intro HR.out.2.1 HR.out.2.2.1)
            clear HR
            go_wp2_with fail
            refine bodyPost_ret (v := .tuple #[.agg #[.int .u64 (H : Int), .int .u64 (L : Int)], .bool true]) (by simp [results, Tryz.results38, go_sem, hr1, hr2]) rfl ⟨H, L, true, rfl, HB.out _ _, HHL.out.1, HHL.out.2, fun _ => HF.out, fun h => by cases h⟩
end Go.Proofs.YtbijpjoljljlpaaGreatDoor.Wide
/- Contracts of the reference's Times and Divide. Conditions: none (each a uint64). -/
set_option maxRecDepth 100000
namespace Go.Proofs.YtbijpjoljljlpaaGreatDoor
open Go.RowKit

theorem times_split (x y : Nat) : x * y = (x / 4294967296) * (y / 4294967296) * 18446744073709551616 + ((x / 4294967296) * (y % 4294967296) + (x % 4294967296) * (y / 4294967296)) * 4294967296 + (x % 4294967296) * (y % 4294967296) := by
  conv => lhs; rw [kn_split x, kn_split y]
  rw [Nat.add_mul, Nat.mul_add, Nat.mul_add, Nat.mul_right_comm (x / 4294967296) 4294967296 (y / 4294967296 * 4294967296), ← Nat.mul_assoc (x / 4294967296) (y / 4294967296), Nat.mul_right_comm (x / 4294967296) 4294967296 (y % 4294967296), ← Nat.mul_assoc (x % 4294967296)]
  generalize x / 4294967296 * (y / 4294967296) = A
  generalize x / 4294967296 * (y % 4294967296) = B
  generalize x % 4294967296 * (y / 4294967296) = C
  generalize x % 4294967296 * (y % 4294967296) = D
  omega
theorem half_mul {a b : Nat} (ha : a < 4294967296) (hb : b < 4294967296) : a * b ≤ 18446744065119617025 := by
  have : a * b ≤ 4294967295 * 4294967295 := Nat.mul_le_mul (by omega) (by omega)
  omega

/-- one bit more -/
theorem bit_next (N hi lo m : Nat) (hN : N = hi * 18446744073709551616 + lo) (hm : m < 64) : N / 2 ^ m = 2 * (N / 2 ^ (m + 1)) + lo / 2 ^ m % 2 := by
  have e1 : N / 2 ^ (m + 1) = N / 2 ^ m / 2 := by rw [Nat.pow_succ, Nat.div_div_eq_div_mul]
  have e2 : N / 2 ^ m = lo / 2 ^ m + hi * 2 ^ (63 - m) * 2 := by
    have e3 : N = lo + hi * 2 ^ (63 - m) * 2 * 2 ^ m := by
      have : 2 ^ (63 - m) * (2 * 2 ^ m) = 18446744073709551616 := by
        rw [← Nat.pow_succ', ← Nat.pow_add, show 63 - m + (m + 1) = 64 by omega]
      rw [hN, Nat.mul_assoc (hi * _), Nat.mul_assoc hi, this, Nat.add_comm]
    rw [e3, Nat.add_mul_div_right _ _ (Nat.two_pow_pos m)]
  rw [e1, e2]
  generalize lo / 2 ^ m = A
  generalize hi * 2 ^ (63 - m) = B
  omega
theorem div_step (q r c b : Nat) (hr : r < c) (hb : b < 2) (M : Nat) (h1 : M / c = q) (h2 : M % c = r) :
    (c ≤ 2 * r + b → (2 * M + b) / c = 2 * q + 1 ∧ (2 * M + b) % c = 2 * r + b - c) ∧ (2 * r + b < c → (2 * M + b) / c = 2 * q ∧ (2 * M + b) % c = 2 * r + b) := by
  have h := Nat.div_add_mod M c
  rw [h1, h2] at h
  constructor
  · intro hc
    have e : 2 * M + b = (2 * r + b - c) + c * (2 * q + 1) := by
      rw [Nat.mul_add, Nat.mul_left_comm]
      generalize c * q = Z at h ⊢
      omega
    rw [e]
    exact ⟨by rw [Nat.add_mul_div_left _ _ (by omega), Nat.div_eq_of_lt (by omega), Nat.zero_add], by rw [Nat.add_mul_mod_self_left, Nat.mod_eq_of_lt (by omega)]⟩
  · intro hc
    have e : 2 * M + b = (2 * r + b) + c * (2 * q) := by
      rw [Nat.mul_left_comm]
      generalize c * q = Z at h ⊢
      omega
    rw [e]
    exact ⟨by rw [Nat.add_mul_div_left _ _ (by omega), Nat.div_eq_of_lt (by omega), Nat.zero_add], by rw [Nat.add_mul_mod_self_left, Nat.mod_eq_of_lt (by omega)]⟩
theorem div_small (N c m : Nat) (hN : N < c * 18446744073709551616) : N / 2 ^ (m + 1) / c < 9223372036854775808 := by
  have hc : 0 < c := by omega
  refine (Nat.div_lt_iff_lt_mul hc).2 ?_
  have : N / 2 ^ (m + 1) ≤ N / 2 := Nat.div_le_div_left (by rw [Nat.pow_succ]; have := Nat.two_pow_pos m; omega) (by omega)
  omega
end Go.Proofs.YtbijpjoljljlpaaGreatDoor
/- Contract of the reference Divide (talusref03). Conditions: none (each a uint64). -/
set_option maxRecDepth 100000
namespace Go.Proofs.YtbijpjoljljlpaaGreatDoor
open Go.RowKit

theorem ret_three {k : IntKind} {a b c d : Int} {e : Bool} (h : a = b) (h2 : c = d) : Ending.returned (.tuple #[.int k a, .int k c, .bool e]) = .returned (.tuple #[.int k b, .int k d, .bool e]) := by rw [h, h2]

end Go.Proofs.YtbijpjoljljlpaaGreatDoor
/- Contracts of Print on both sides. Conditions: none. -/
set_option maxRecDepth 100000
namespace Go.Proofs.YtbijpjoljljlpaaGreatDoor.Wide
open Go.RowKit

theorem str_app (a b : List UInt8) : (⟨a.toArray⟩ ++ ⟨b.toArray⟩ : ByteArray) = ⟨(a ++ b).toArray⟩ := by
  apply ByteArray.ext
  simp
theorem ret_str {a b : ByteArray} (h : a = b) : Ending.returned (.string a) = .returned (.string b) := by rw [h]
theorem len39 {n : Nat} (h : n < 340282366920938463463374607431768211456) : (digs n).length ≤ 39 := digs_len 38 n (Nat.lt_of_lt_of_le h (by decide))
theorem print_pos {N : Int} (h : 0 ≤ N) : printL N = digs N.natAbs := by unfold printL; rw [if_neg (by omega)]
theorem print_neg {N : Int} (h : N < 0) : printL N = 45 :: digs N.natAbs := by unfold printL; rw [if_pos h]
theorem c1_cells {w w' : World} {a0 a1 : Value} (hb : Below (w.heap.size + 1) (w.alloc (.cells #[a0, a1] 61)) w') :
    w'.cell? ⟨w.heap.size, 0, none⟩ = some a0 ∧ w'.cell? ⟨w.heap.size, 1, none⟩ = some a1 ∧ w'.frozen? ⟨w.heap.size, 0, none⟩ = false ∧ w'.frozen? ⟨w.heap.size, 1, none⟩ = false := by
  refine ⟨?_, ?_, ?_, ?_⟩
  · rw [hb.cell (p := ⟨w.heap.size, 0, none⟩) (by simp)]; go_simp
  · rw [hb.cell (p := ⟨w.heap.size, 1, none⟩) (by simp)]; go_simp
  · rw [hb.frozen (p := ⟨w.heap.size, 0, none⟩) (by simp)]; go_simp
  · rw [hb.frozen (p := ⟨w.heap.size, 1, none⟩) (by simp)]; go_simp
theorem o1_next {w w' w1 : World} {o : Obj} (hb : Below (w.heap.size + 1) (w.alloc o) w') (hk : Below w'.heap.size w' w1) : Below (w.heap.size + 1) (w.alloc o) w1 := by
  have hz := hb.size
  rw [World.size_alloc] at hz
  exact hb.trans (hk.mono hz)
theorem o1_done {w w' : World} {o : Obj} (hb : Below (w.heap.size + 1) (w.alloc o) w') : Below w.heap.size w w' := ((Below.refl _ _).alloc (Nat.le_refl _) _).trans (hb.mono (by omega))
set_option maxHeartbeats 800000 in
theorem print_any (h l : Int) (w : World) (h0 : -9223372036854775808 ≤ h) (h1 : h < 9223372036854775808) (l0 : 0 ≤ l) (l1 : l < 18446744073709551616) : Calls Tryz.prog 144 #[.agg #[.int .i64 h, .int .u64 l]] w fun e w' => e = .returned (.string ⟨(printL (h * 18446744073709551616 + l)).toArray⟩) ∧ Below w.heap.size w w' := by
  obtain ⟨N, hN⟩ : ∃ N, N = h * 18446744073709551616 + l := ⟨_, rfl⟩
  have K1 := fun w => sizeOf_any h l w h0 h1 l0 l1
  rw [← hN] at K1 ⊢
  have K3 := below_any h l
  obtain ⟨H, hH⟩ : ∃ H, H = N.natAbs / 18446744073709551616 := ⟨_, rfl⟩
  obtain ⟨L, hL⟩ : ∃ H, H = N.natAbs % 18446744073709551616 := ⟨_, rfl⟩
  have ha : absW N = (N.natAbs : Int) := by unfold absW; split <;> omega
  have K2 := fun w => digits_any H L w (by omega) (by omega)
  rw [show H * 18446744073709551616 + L = N.natAbs by omega] at K2
  unfold sv at K1
  rw [ha, (sv_nat _).1, (sv_nat _).2, ← hH, ← hL] at K1
  by_cases hn : N < 0
  · rw [print_neg hn]
    rw [decide_eq_true (by omega)] at K3
    have hd := len39 (n := N.natAbs) (by omega)
    clear hH hL ha hn hN
    generalize digs N.natAbs = d at K2 hd ⊢
    go_enter Tryz.func144, Tryz.ntmps144
    go_wp2_with fail
    refine (K1 _).mono ?_
    rintro e w1 ⟨rfl, b1⟩
    replace b1 := o1_next (Below.refl _ _) b1
    go_wp2_with fail
    refine (K2 _).mono ?_
    rintro e w2 ⟨rfl, b2⟩
    replace b2 := o1_next b1 b2
    have hc := c1_cells b2
    clear b1
    go_wp2_with fail
    refine (K3 _).mono ?_
    rintro e w3 ⟨rfl, b3⟩
    replace b3 := o1_next b2 b3
    clear b2 hc
    go_wp2_with fail
    go_ret
    exact ⟨ret_str (str_app [45] d), o1_done b3⟩
  · rw [print_pos (by omega)]
    rw [decide_eq_false (by omega)] at K3
    clear hH hL ha hn hN
    generalize digs N.natAbs = d at K2 ⊢
    go_enter Tryz.func144, Tryz.ntmps144
    go_wp2_with fail
    refine (K1 _).mono ?_
    rintro e w1 ⟨rfl, b1⟩
    replace b1 := o1_next (Below.refl _ _) b1
    go_wp2_with fail
    refine (K2 _).mono ?_
    rintro e w2 ⟨rfl, b2⟩
    replace b2 := o1_next b1 b2
    have hc := c1_cells b2
    clear b1
    go_wp2_with fail
    refine (K3 _).mono ?_
    rintro e w3 ⟨rfl, b3⟩
    replace b3 := o1_next b2 b3
    clear b2 hc
    go_wp2_with fail
    go_ret
    exact ⟨rfl, o1_done b3⟩
theorem set_first {w : World} {n : Nat} {x y : Value} (h : w.cell? ⟨n, 0, none⟩ = some x) (h' : w.cell? ⟨n, 1, none⟩ = some y) (u v : Value) : ((w.setCell ⟨n, 0, none⟩ u).setCell ⟨n, 1, none⟩ v).cell? ⟨n, 0, none⟩ = some u := by
  rw [World.cell?_setCell_other _ _ _ _ (by simp)]; exact (set_two h h' u v).1
theorem o1_set {w w' : World} (h : Below w.heap.size w w') (u v : Value) : Below w.heap.size w ((w'.setCell ⟨w.heap.size, 0, none⟩ u).setCell ⟨w.heap.size, 1, none⟩ v) := (h.setCell (by simp) _).setCell (by simp) _
theorem box_drewN (w : World) (o : Obj) (n : Nat) : Below w.heap.size w ((w.alloc o).drewN n) := by
  have h := (Below.refl w.heap.size w).alloc (Nat.le_refl _) o
  exact ⟨h.os, h.tape, h.output, h.size, h.block⟩
theorem div_facts (H L : Nat) (hH : H < 18446744073709551616) (hL : L < 18446744073709551616) : ∃ H1 H2 L2 D : Nat, H % 10 = H1 ∧ H / 10 = H2 ∧ H1 < 10 ∧ H2 < 18446744073709551616 ∧ L2 < 18446744073709551616 ∧ D < 10 ∧ (H * 18446744073709551616 + L) / 10 = H2 * 18446744073709551616 + L2 ∧ (H * 18446744073709551616 + L) % 10 = D ∧ (H1 * 18446744073709551616 + L) / 10 = L2 ∧ (H1 * 18446744073709551616 + L) % 10 = D :=
  ⟨H % 10, H / 10, _, _, rfl, rfl, Nat.mod_lt _ (by decide), Nat.lt_of_le_of_lt (Nat.div_le_self _ _) hH, Nat.div_lt_of_lt_mul (by omega), Nat.mod_lt _ (by decide), quo_gen H 18446744073709551616 L 10 (by decide), rem_gen H 18446744073709551616 L 10, rfl, rfl⟩
theorem one_byte (w : World) (D : Nat) (hD : D < 10) : (convert 33 9 (.slice (some ⟨w.heap.size, 0, none⟩) 1 1)).run Tryz.prog (w.alloc (.cells #[.int .u8 (48 + (D : Int))] 5)) = .ok (.string ⟨#[UInt8.ofNat (48 + D)]⟩) (w.alloc (.cells #[.int .u8 (48 + (D : Int))] 5)) := by
  have hv : ((UInt8.ofNat (48 + D)).toNat : Int) = 48 + (D : Int) := by rw [dig_nat hD]; omega
  exact toStr' (l := [UInt8.ofNat (48 + D)]) (Holds.of_heap (alloc1 _ _) (by rw [← hv]; rfl) 1 1 rfl (Nat.le_refl _))
end Go.Proofs.YtbijpjoljljlpaaGreatDoor.Wide
