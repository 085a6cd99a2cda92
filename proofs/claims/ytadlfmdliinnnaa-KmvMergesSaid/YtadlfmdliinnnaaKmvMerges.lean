/- The walk of KmvMerges: merging is the same in either order, and a second time changes nothing. Conditions: none. -/
import Derived.Test.YtadlfmdliinnnaaKmvOrder
set_option maxRecDepth 100000
namespace Go.Proofs.Ytadlfmdliinnnaa
open Go.RowKit Go.Maps Go.Sort

section
variable {w : World} {sa : Option Addr} {n sc : Nat} {S : List (Nat × Nat)}
set_option maxHeartbeats 6400000 in
theorem merges_bad (hs : SetAt w sa n sc S) (t k m : Int) (hg : goodB t S k m = false) (la lb : Option Addr) (ln lc ld le : Nat) :
    Calls Try.prog 7 #[setV t sa n sc k m, .slice la ln lc, .slice lb ld le] w fun e w' => e = .returned (.bool true) ∧ Below w.heap.size w w' := by
  have S0 := bx_start w t sa n sc k m
  obtain ⟨c0, c1, c2, c3⟩ := bx_cells S0 (List.mem_cons_self ..)
  have S1 := S0.drew
  have KN := Lib.hid (fun W (h : Side w [Bx w t sa n sc k m] W) => bx_nil hs t k m hg h)
  have KC := Lib.hid (fun W (h : Side w [Bx w t sa n sc k m] W) => bx_cells h (List.mem_cons_self ..))
  have KL := Lib.hid (fun W (h : Side w [Bx w t sa n sc k m] W) => bx_lives h)
  clear hs hg
  unfold setV
  unfold setO at S0 S1 c0 c1 c2 c3
  go_enter Try.func7, Try.ntmps7
  go_wp2_with fail
  go_region_held3 (fun w' => w'.cell? ⟨w.heap.size, 0, none⟩ = some (.int .i64 t) ∧ w'.cell? ⟨w.heap.size, 1, none⟩ = some (.slice sa n sc) ∧ w'.cell? ⟨w.heap.size, 2, none⟩ = some (.int .i64 k) ∧ w'.cell? ⟨w.heap.size, 3, none⟩ = some (.int .i64 m))
    (first | assumption | exact KC.out _ (by assumption))
    ((go_at_call 9; refine (KN.out _ (by assumption)).mono ?_; rintro e w5 ⟨rfl, s5⟩))
  have KL2 := KL.out _ s5
  clear s5 KN KL
  go_wp2_with fail
  refine KL2.mono ?_
  rintro e w7 ⟨rfl, hb⟩
  clear KL2
  go_wp2_with fail
  go_ret
  exact ⟨rfl, hb⟩

/-- two sketches side by side -/
def Two (w : World) (p q : Nat) (V A : SkV) (W : World) : Prop := Side w [(0, Sk p V), (1, Sk q A)] W
theorem two0 {W : World} {p q x : Nat} {V A : SkV} (h : Two w p q V A W) (hx : x < 18446744073709551616) :
    Calls Try.prog 14 #[.pointer (some ⟨p, 0, none⟩), .int .u64 (x : Int)] W fun e w' => e = .returned (.tuple #[]) ∧ Two w p q (V.ins x) A w' :=
  (side_ins h (fun e he => by simp at he; subst he; simp) hx).mono fun _ _ ⟨a, b⟩ => ⟨a, b.out⟩
theorem two1 {W : World} {p q x : Nat} {V A : SkV} (h : Two w p q V A W) (hx : x < 18446744073709551616) :
    Calls Try.prog 14 #[.pointer (some ⟨q, 0, none⟩), .int .u64 (x : Int)] W fun e w' => e = .returned (.tuple #[]) ∧ Two w p q V (A.ins x) w' := by
  have h1 := h.sub (E' := [(1, Sk q A), (0, Sk p V)]) (fun x hx => by simp at hx; rcases hx with rfl | rfl <;> simp)
  exact (side_ins h1 (fun e he => by simp at he; subst he; simp) hx).mono fun _ _ ⟨a, b⟩ => ⟨a, b.out.sub (fun x hx => by simp at hx; rcases hx with rfl | rfl <;> simp)⟩

set_option maxHeartbeats 6400000 in
theorem merges_long (hs : SetAt w sa n sc S) (t : Nat) (k m : Int) (hg : goodB t S k m = true) (la lb : Option Addr) (ln lc ld le : Nat) (hln : decide ((300 : Int) < wrap64 ((ln : Int) + (ld : Int))) = true) :
    Calls Try.prog 7 #[setV t sa n sc k m, .slice la ln lc, .slice lb ld le] w fun e w' => e = .returned (.bool true) ∧ Below w.heap.size w w' := by
  have S0 := bx_start w t sa n sc k m
  obtain ⟨c0, c1, c2, c3⟩ := bx_cells S0 (List.mem_cons_self ..)
  have S1 := S0.drew
  have KA := Lib.hid (fun W (h : Side w [Bx w t sa n sc k m] W) => bx_new hs t k m hg h 0)
  have KB := Lib.hid (fun W p (h : Side w [(0, Sk p (SkV.empty t S)), Bx w t sa n sc k m] W) => bx_new hs t k m hg h 1)
  have KCB := Lib.hid (fun W (h : Side w [Bx w t sa n sc k m] W) => bx_cells h (.head _))
  have KC0 := Lib.hid (fun W p (h : Side w [(0, Sk p (SkV.empty t S)), Bx w t sa n sc k m] W) => bx_cells h (.tail _ (.head _)))
  have KC1 := Lib.hid (fun W p q (h : Side w [(1, Sk q (SkV.empty t S)), (0, Sk p (SkV.empty t S)), Bx w t sa n sc k m] W) => bx_cells h (.tail _ (.tail _ (.head _))))
  have KL := Lib.hid (fun W E (h : Side w E W) => bx_lives h)
  clear hs hg
  unfold setV
  unfold setO at S0 S1 c0 c1 c2 c3
  go_enter Try.func7, Try.ntmps7
  go_wp2_with fail
  go_region_held3 (fun w' => w'.cell? ⟨w.heap.size, 0, none⟩ = some (.int .i64 t) ∧ w'.cell? ⟨w.heap.size, 1, none⟩ = some (.slice sa n sc) ∧ w'.cell? ⟨w.heap.size, 2, none⟩ = some (.int .i64 k) ∧ w'.cell? ⟨w.heap.size, 3, none⟩ = some (.int .i64 m))
    (first | assumption | exact KCB.out _ (by assumption) | exact KC0.out _ _ (by assumption) | exact KC1.out _ _ _ (by assumption))
    (first
      | (go_at_call 9; refine (KA.out _ (by assumption)).mono ?_; rintro e w5 ⟨p5, rfl, s5⟩)
      | (go_at_call 9; refine (KB.out _ _ (by assumption)).mono ?_; rintro e w6 ⟨p6, rfl, s6⟩))
  have KL2 := KL.out _ _ s6
  rename_i hheld
  clear s5 s6 S0 S1 KA KB KCB KC0 KC1 c0 c1 c2 c3 hheld KL
  go_wp2_with fail
  refine KL2.mono ?_
  rintro e w9 ⟨rfl, hb⟩
  clear KL2
  go_wp2_with fail
  go_ret
  exact ⟨rfl, hb⟩

section
variable {W : World} {p q x y z : Nat} {V A M : SkV}
theorem m_copy0 (h : Two w p q V A W) : Calls Try.prog 19 #[.pointer (some ⟨p, 0, none⟩)] W fun e w' => ∃ x, e = .returned (.pointer (some ⟨x, 0, none⟩)) ∧ Side w [(2, Sk x V), (0, Sk p V), (1, Sk q A)] w' :=
  (side_copy h (.head _) 2).mono fun _ _ ⟨x, a, b⟩ => ⟨x, a, b.out⟩
theorem m_copy1 (h : Side w [(2, Sk x V), (0, Sk p V), (1, Sk q A)] W) : Calls Try.prog 19 #[.pointer (some ⟨q, 0, none⟩)] W fun e w' => ∃ y, e = .returned (.pointer (some ⟨y, 0, none⟩)) ∧ Side w [(3, Sk y A), (2, Sk x V), (0, Sk p V), (1, Sk q A)] w' :=
  (side_copy h (.tail _ (.tail _ (.head _))) 3).mono fun _ _ ⟨x, a, b⟩ => ⟨x, a, b.out⟩
theorem m_merge0 (h : Side w [(3, Sk y A), (2, Sk x V), (0, Sk p V), (1, Sk q A)] W) (ht : A.t = V.t) (hS : A.seeds = V.seeds) :
    Calls Try.prog 16 #[.pointer (some ⟨x, 0, none⟩), .pointer (some ⟨q, 0, none⟩)] W fun e w' => e = .returned (.int .i64 0) ∧ Side w [(3, Sk y A), (2, Sk x (V.merge A)), (0, Sk p V), (1, Sk q A)] w' := by
  have h1 := h.sub (E' := [(2, Sk x V), (3, Sk y A), (0, Sk p V), (1, Sk q A)]) (fun x hx => by simp at hx; rcases hx with rfl | rfl | rfl | rfl <;> simp)
  exact (side_merge h1 (fun e he => by simp at he; rcases he with rfl | rfl | rfl <;> simp) (j := 1) (.tail _ (.tail _ (.head _))) ht hS).mono fun _ _ ⟨a, b⟩ => ⟨a, b.out.sub (fun x hx => by simp at hx; rcases hx with rfl | rfl | rfl | rfl <;> simp)⟩
theorem m_merge1 (h : Side w [(3, Sk y A), (2, Sk x M), (0, Sk p V), (1, Sk q A)] W) (ht : V.t = A.t) (hS : V.seeds = A.seeds) :
    Calls Try.prog 16 #[.pointer (some ⟨y, 0, none⟩), .pointer (some ⟨p, 0, none⟩)] W fun e w' => e = .returned (.int .i64 0) ∧ Side w [(3, Sk y (A.merge V)), (2, Sk x M), (0, Sk p V), (1, Sk q A)] w' :=
  (side_merge h (fun e he => by simp at he; rcases he with rfl | rfl | rfl <;> simp) (j := 0) (.tail _ (.head _)) ht hS).mono fun _ _ ⟨a, b⟩ => ⟨a, b.out⟩
theorem m_copy2 (h : Side w [(3, Sk y M), (2, Sk x M), (0, Sk p V), (1, Sk q A)] W) : Calls Try.prog 19 #[.pointer (some ⟨x, 0, none⟩)] W fun e w' => ∃ z, e = .returned (.pointer (some ⟨z, 0, none⟩)) ∧ Side w [(4, Sk z M), (3, Sk y M), (2, Sk x M), (0, Sk p V), (1, Sk q A)] w' :=
  (side_copy h (.tail _ (.head _)) 4).mono fun _ _ ⟨x, a, b⟩ => ⟨x, a, b.out⟩
theorem m_merge2 (h : Side w [(4, Sk z M), (3, Sk y M), (2, Sk x M), (0, Sk p V), (1, Sk q A)] W) (ht : V.t = M.t) (hS : V.seeds = M.seeds) (hM : M.merge V = M) :
    Calls Try.prog 16 #[.pointer (some ⟨z, 0, none⟩), .pointer (some ⟨p, 0, none⟩)] W fun e w' => e = .returned (.int .i64 0) ∧ Side w [(4, Sk z M), (3, Sk y M), (2, Sk x M), (0, Sk p V), (1, Sk q A)] w' := by
  have h1 := side_merge h (fun e he => by simp at he; rcases he with rfl | rfl | rfl | rfl <;> simp) (j := 0) (.tail _ (.tail _ (.head _))) ht hS
  rw [hM] at h1
  exact h1.mono fun _ _ ⟨a, b⟩ => ⟨a, b.out⟩
theorem m_merge3 (h : Side w [(4, Sk z M), (3, Sk y M), (2, Sk x M), (0, Sk p V), (1, Sk q A)] W) :
    Calls Try.prog 16 #[.pointer (some ⟨z, 0, none⟩), .pointer (some ⟨z, 0, none⟩)] W fun e w' => e = .returned (.int .i64 0) ∧ Side w [(4, Sk z M), (3, Sk y M), (2, Sk x M), (0, Sk p V), (1, Sk q A)] w' :=
  (side_merge_self h (.head _)).mono fun _ _ ⟨a, b⟩ => ⟨a, h.below b⟩
end

set_option maxHeartbeats 6400000 in
theorem merges_main (hs : SetAt w sa n sc S) (t : Nat) (k m : Int) (hg : goodB t S k m = true) (la lb : Option Addr) (lc le : Nat) {l b : List Nat} (hl : Holds w (.slice la l.length lc) (nats l)) (hb : Holds w (.slice lb b.length le) (nats b))
    (hlt : ∀ x ∈ l, x < 18446744073709551616) (hbt : ∀ x ∈ b, x < 18446744073709551616) (h1 : l.length ≤ 9223372036854775807) (h2 : b.length ≤ 9223372036854775807) (hln : decide ((300 : Int) < wrap64 ((l.length : Int) + (b.length : Int))) = false) :
    Calls Try.prog 7 #[setV t sa n sc k m, .slice la l.length lc, .slice lb b.length le] w fun e w' => e = .returned (.bool true) ∧ Below w.heap.size w w' := by
  have S0 := bx_start w t sa n sc k m
  obtain ⟨c0, c1, c2, c3⟩ := bx_cells S0 (List.mem_cons_self ..)
  have S1 := S0.drew
  have KA := Lib.hid (fun W (h : Side w [Bx w t sa n sc k m] W) => bx_new hs t k m hg h 0)
  have KB := Lib.hid (fun W p (h : Side w [(0, Sk p (SkV.empty t S)), Bx w t sa n sc k m] W) => bx_new hs t k m hg h 1)
  have KCB := Lib.hid (fun W (h : Side w [Bx w t sa n sc k m] W) => bx_cells h (.head _))
  have KC0 := Lib.hid (fun W p (h : Side w [(0, Sk p (SkV.empty t S)), Bx w t sa n sc k m] W) => bx_cells h (.tail _ (.head _)))
  have KC1 := Lib.hid (fun W p q (h : Side w [(1, Sk q (SkV.empty t S)), (0, Sk p (SkV.empty t S)), Bx w t sa n sc k m] W) => bx_cells h (.tail _ (.tail _ (.head _))))
  have HL := Lib.hid hl
  have HB := Lib.hid hb
  have HLT := Lib.hid hlt
  have HBT := Lib.hid hbt
  clear hs hg hl hb hlt hbt
  generalize hn' : l.length = ln at *
  generalize hb' : b.length = ld at *
  have HLN := Lib.hid hn'
  have HBN := Lib.hid hb'
  clear hn' hb'
  have H1 := Lib.hid h1
  have H2 := Lib.hid h2
  clear h1 h2
  unfold setV
  unfold setO at S0 S1 c0 c1 c2 c3
  go_enter Try.func7, Try.ntmps7
  go_wp2_with fail
  go_region_held3 (fun w' => w'.cell? ⟨w.heap.size, 0, none⟩ = some (.int .i64 t) ∧ w'.cell? ⟨w.heap.size, 1, none⟩ = some (.slice sa n sc) ∧ w'.cell? ⟨w.heap.size, 2, none⟩ = some (.int .i64 k) ∧ w'.cell? ⟨w.heap.size, 3, none⟩ = some (.int .i64 m))
    (first | assumption | exact KCB.out _ (by assumption) | exact KC0.out _ _ (by assumption) | exact KC1.out _ _ _ (by assumption))
    (first
      | (go_at_call 9; refine (KA.out _ (by assumption)).mono ?_; rintro e w5 ⟨p5, rfl, s5⟩)
      | (go_at_call 9; refine (KB.out _ _ (by assumption)).mono ?_; rintro e w6 ⟨p6, rfl, s6⟩))
  have HT : Hid (Two w p5 p6 (SkV.empty t S) (SkV.empty t S) w6) := Lib.hid (s6.sub (fun x hx => by simp at hx; rcases hx with rfl | rfl <;> simp))
  rename_i hheld
  clear s5 s6 S0 S1 KA KB KCB KC0 KC1 c0 c1 c2 c3 hheld
  go_wp2_with fail
  clear hln
  have h1 := H1.out
  go_loopw [10, 37] (fun _ j wr => ∃ r : Nat, j = .int .i64 r ∧ r ≤ ln ∧ Hid (∃ V, OfSet t S (fun z => z ∈ l.take r) V ∧ Two w p5 p6 V (SkV.empty t S) wr)) (fun _ j _ => ln - (intOf j).toNat)
  case atStart => exact ⟨0, rfl, Nat.zero_le _, _, (OfSet.empty t S).iff fun z => by simp, HT.out⟩
  case round =>
    obtain ⟨r, rfl, hr, HR⟩ := hrel
    by_cases hlt : r < ln
    · obtain ⟨V, hP, hT⟩ := HR.out
      have hrl : r < l.length := by rw [HLN.out]; exact hlt
      have hH := HL.out.below hT.base
      obtain ⟨ad, rfl⟩ := hH.ptr (by omega)
      have e0 := hH.cell (nats_at hrl)
      have hx := HLT.out _ (List.getElem_mem hrl)
      have HNX := Lib.hid (hP.ins_take hrl)
      generalize l[r] = x at *
      have b0 : (0 : Int) ≤ (r : Int) := by omega
      have b1 : (r : Int) < (ln : Int) := by omega
      have K0 := two0 hT hx
      clear hH hP hT HR hx
      go_wp2_with fail
      refine K0.mono ?_
      rintro e w8 ⟨rfl, s8⟩
      have HQ : Hid (∃ V, OfSet t S (fun z => z ∈ l.take (r + 1)) V ∧ Two w p5 p6 V (SkV.empty t S) w8) := Lib.hid ⟨_, HNX.out, s8⟩
      clear K0 s8 HNX e0
      go_wp2_with fail
      go_roundw
      case rel => exact ⟨r + 1, by go_num, by omega, HQ⟩
      case measure => simp [intOf]; omega
    · have hre : r = ln := by omega
      obtain ⟨V, hP, hT⟩ := HR.out
      rw [hre, ← HLN.out, List.take_length] at hP
      have HV := Lib.hid hP
      have HT2 := Lib.hid hT
      clear HR hP hT hre
      have h2 := H2.out
      obtain ⟨wo, hwo⟩ : ∃ wo : World, wo = wr := ⟨_, rfl⟩
      clear hwo h1
      go_wp2_with fail
      go_loopw [12, 47] (fun _ j wq => ∃ q : Nat, j = .int .i64 q ∧ q ≤ ld ∧ Hid (∃ A, OfSet t S (fun z => z ∈ b.take q) A ∧ Two w p5 p6 V A wq)) (fun _ j _ => ld - (intOf j).toNat)
      case atStart => exact ⟨0, rfl, Nat.zero_le _, _, (OfSet.empty t S).iff fun z => by simp, HT2.out⟩
      case round =>
        obtain ⟨q, rfl, hq, HQ⟩ := hrel
        by_cases hqt : q < ld
        · obtain ⟨A, hP, hT⟩ := HQ.out
          have hql : q < b.length := by rw [HBN.out]; exact hqt
          have hH := HB.out.below hT.base
          obtain ⟨ad, rfl⟩ := hH.ptr (by omega)
          have e0 := hH.cell (nats_at hql)
          have hx := HBT.out _ (List.getElem_mem hql)
          have HNX := Lib.hid (hP.ins_take hql)
          generalize b[q] = x at *
          have b0 : (0 : Int) ≤ (q : Int) := by omega
          have b1 : (q : Int) < (ld : Int) := by omega
          have K0 := two1 hT hx
          clear hH hP hT HQ hx
          go_wp2_with fail
          refine K0.mono ?_
          rintro e w8 ⟨rfl, s8⟩
          have HQ : Hid (∃ A, OfSet t S (fun z => z ∈ b.take (q + 1)) A ∧ Two w p5 p6 V A w8) := Lib.hid ⟨_, HNX.out, s8⟩
          clear K0 s8 HNX e0
          go_wp2_with fail
          go_roundw
          case rel => exact ⟨q + 1, by go_num, by omega, HQ⟩
          case measure => simp [intOf]; omega
        · have hqe : q = ld := by omega
          obtain ⟨A, hP, hT⟩ := HQ.out
          rw [hqe, ← HBN.out, List.take_length] at hP
          have HA := Lib.hid hP
          have S9 := Lib.hid hT
          clear HQ hP hT hqe HT2 HL HB h2
          have hM : A.merge V = V.merge A := (HA.out.merge HV.out).eq' (HV.out.merge HA.out) fun z => or_comm
          have hM2 : (V.merge A).merge V = V.merge A := ((HV.out.merge HA.out).merge HV.out).eq' (HV.out.merge HA.out) fun z => by
            constructor
            · exact fun h => .inl h
            · rintro (h | h)
              · exact h
              · exact .inl h
          have ht : A.t = V.t := by rw [HA.out.ht, HV.out.ht]
          have hS' : A.seeds = V.seeds := by rw [HA.out.hs, HV.out.hs]
          have K1 := m_copy0 S9.out
          have K2 := Lib.hid (fun W x (h : Side w [(2, Sk x V), (0, Sk p5 V), (1, Sk p6 A)] W) => m_copy1 h)
          have K3 := Lib.hid (fun W x y (h : Side w [(3, Sk y A), (2, Sk x V), (0, Sk p5 V), (1, Sk p6 A)] W) => m_merge0 h ht hS')
          have K4 := Lib.hid (fun W x y M (h : Side w [(3, Sk y A), (2, Sk x M), (0, Sk p5 V), (1, Sk p6 A)] W) => hM ▸ m_merge1 h ht.symm hS'.symm)
          have K5 := Lib.hid (fun W x y M (h : Side w [(3, Sk y M), (2, Sk x M), (0, Sk p5 V), (1, Sk p6 A)] W) => m_copy2 h)
          have K6 := Lib.hid (fun W x y z (h : Side w [(4, Sk z (V.merge A)), (3, Sk y (V.merge A)), (2, Sk x (V.merge A)), (0, Sk p5 V), (1, Sk p6 A)] W) => m_merge2 h rfl rfl hM2)
          have K7 := Lib.hid (fun W x y z (h : Side w [(4, Sk z (V.merge A)), (3, Sk y (V.merge A)), (2, Sk x (V.merge A)), (0, Sk p5 V), (1, Sk p6 A)] W) => m_merge3 h)
          clear hM hM2 ht hS' HA HV
          generalize V.merge A = M at *
          clear S9
          go_wp2_with fail
          refine K1.mono ?_
          rintro e w8 ⟨x, rfl, s8⟩
          have K := K2.out _ _ s8
          clear K1 K2 s8
          go_wp2_with fail
          refine K.mono ?_
          rintro e w9 ⟨y, rfl, s9⟩
          have K1 := K3.out _ _ _ s9
          clear K K3 s9
          go_wp2_with fail
          refine K1.mono ?_
          rintro e w10 ⟨rfl, s10⟩
          have K := K4.out _ _ _ _ s10
          clear K1 K4 s10
          go_wp2_with fail
          refine K.mono ?_
          rintro e w11 ⟨rfl, s11⟩
          have KB1 := side_bytes (i := 2) s11 (.tail _ (.head _))
          have S11 := Lib.hid s11
          clear K s11
          go_wp2_with fail
          refine KB1.mono ?_
          rintro e w12 ⟨v1, rfl, ho1, hb1⟩
          have S12 := Lib.hid (S11.out.below hb1)
          have KB2 := side_bytes (i := 3) S12.out (.head _)
          have H1 := Lib.hid (Holds.of_row (by rw [u8s_len]; exact ho1))
          clear KB1 S11 hb1 ho1
          go_wp2_with fail
          refine KB2.mono ?_
          rintro e w13 ⟨v2, rfl, ho2, hb2⟩
          have S13 := Lib.hid (S12.out.below hb2)
          have KS := Same_any (H1.out.below hb2) (Holds.of_row (by rw [u8s_len]; exact ho2))
          simp only [decide_true] at KS
          clear KB2 S12 H1 hb2 ho2
          go_wp2_with fail
          refine KS.mono ?_
          rintro e w14 ⟨rfl, rfl⟩
          have K := K5.out _ _ _ _ S13.out
          clear KS K5 S13
          go_wp2_with fail
          refine K.mono ?_
          rintro e w15 ⟨z, rfl, s15⟩
          have K1 := K6.out _ _ _ _ s15
          clear K K6 s15
          go_wp2_with fail
          refine K1.mono ?_
          rintro e w16 ⟨rfl, s16⟩
          have K := K7.out _ _ _ _ s16
          clear K1 K7 s16
          go_wp2_with fail
          refine K.mono ?_
          rintro e w17 ⟨rfl, s17⟩
          have KB1 := side_bytes (i := 4) s17 (.head _)
          have S17 := Lib.hid s17
          clear K s17
          go_wp2_with fail
          refine KB1.mono ?_
          rintro e w18 ⟨v3, rfl, ho3, hb3⟩
          have S18 := Lib.hid (S17.out.below hb3)
          have KB2 := side_bytes (i := 2) S18.out (.tail _ (.tail _ (.head _)))
          have H3 := Lib.hid (Holds.of_row (by rw [u8s_len]; exact ho3))
          clear KB1 S17 hb3 ho3
          go_wp2_with fail
          refine KB2.mono ?_
          rintro e w19 ⟨v4, rfl, ho4, hb4⟩
          have S19 := Lib.hid (S18.out.below hb4)
          have KS := Same_any (H3.out.below hb4) (Holds.of_row (by rw [u8s_len]; exact ho4))
          simp only [decide_true] at KS
          have KL := bx_lives S19.out
          clear KB2 S18 S19 H3 hb4 ho4
          go_wp2_with fail
          refine KS.mono ?_
          rintro e w20 ⟨rfl, rfl⟩
          clear KS
          go_wp2_with fail
          refine KL.mono ?_
          rintro e w21 ⟨rfl, hb⟩
          clear KL
          go_wp2_with fail
          go_ret
          exact ⟨rfl, hb⟩

theorem merges_walk (hs : SetAt w sa n sc S) (t k m : Int) (la lb : Option Addr) (ln lc ld le : Nat) {l b : List UInt64} (hl : Holds w (.slice la ln lc) (u64s l)) (hb : Holds w (.slice lb ld le) (u64s b)) (hn : l.length = ln) (hn2 : b.length = ld) (h1 : ln ≤ 9223372036854775807) (h2 : ld ≤ 9223372036854775807) :
    Calls Try.prog 7 #[setV t sa n sc k m, .slice la ln lc, .slice lb ld le] w fun e w' => e = .returned (.bool true) ∧ Below w.heap.size w w' := by
  cases hg : goodB t S k m with
  | false => exact merges_bad hs t k m hg la lb ln lc ld le
  | true =>
    obtain ⟨tn, rfl, _⟩ := goodB_set hg
    cases h : decide ((300 : Int) < wrap64 ((ln : Int) + (ld : Int))) with
    | true => exact merges_long hs tn k m hg la lb ln lc ld le h
    | false =>
      rw [u64s_nats] at hl hb
      have e : (l.map UInt64.toNat).length = ln := by simpa using hn
      have e2 : (b.map UInt64.toNat).length = ld := by simpa using hn2
      subst e e2
      exact merges_main hs tn k m hg la lb lc le hl hb (toNat_lt l) (toNat_lt b) h1 h2 h
end
end Go.Proofs.Ytadlfmdliinnnaa
