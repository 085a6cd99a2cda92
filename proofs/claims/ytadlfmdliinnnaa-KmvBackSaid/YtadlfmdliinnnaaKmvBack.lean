/- The walk of KmvBack: a sketch's bytes lead back. Conditions: none. -/
import Derived.Test.YtadlfmdliinnnaaKmvBackA
set_option maxRecDepth 100000
namespace Go.Proofs.Ytadlfmdliinnnaa
open Go.RowKit Go.Maps Go.Sort

section
variable {w : World} {sa : Option Addr} {n sc : Nat} {S : List (Nat × Nat)}
set_option maxHeartbeats 6400000 in
theorem back_bad (hs : SetAt w sa n sc S) (t k m : Int) (hg : goodB t S k m = false) (la lb : Option Addr) (ln lc ld le : Nat) :
    Calls Try.prog 8 #[setV t sa n sc k m, .slice la ln lc, .slice lb ld le] w fun e w' => e = .returned (.bool true) ∧ Below w.heap.size w w' := by
  have S0 := bx_start w t sa n sc k m
  obtain ⟨c0, c1, c2, c3⟩ := bx_cells S0 (List.mem_cons_self ..)
  have KN := bx_nil hs t k m hg S0
  have KL := Lib.hid (fun W (h : Side w [Bx w t sa n sc k m] W) => bx_lives h)
  clear hs hg
  unfold setV
  unfold setO at S0 c0 c1 c2 c3 KN
  go_enter Try.func8, Try.ntmps8
  go_wp2_with fail
  refine KN.mono ?_
  rintro e w5 ⟨rfl, s5⟩
  have KL2 := KL.out _ s5
  clear s5 KN KL S0 c0 c1 c2 c3
  go_wp2_with fail
  refine KL2.mono ?_
  rintro e w7 ⟨rfl, hb⟩
  clear KL2
  go_wp2_with fail
  go_ret
  exact ⟨rfl, hb⟩

set_option maxHeartbeats 6400000 in
theorem back_long (hs : SetAt w sa n sc S) (t : Nat) (k m : Int) (hg : goodB t S k m = true) (la lb : Option Addr) (ln lc ld le : Nat) (hln : decide ((300 : Int) < wrap64 ((ln : Int) + (ld : Int))) = true) :
    Calls Try.prog 8 #[setV t sa n sc k m, .slice la ln lc, .slice lb ld le] w fun e w' => e = .returned (.bool true) ∧ Below w.heap.size w w' := by
  have S0 := bx_start w t sa n sc k m
  obtain ⟨c0, c1, c2, c3⟩ := bx_cells S0 (List.mem_cons_self ..)
  have KN := bx_new hs t k m hg S0 0
  have KL := Lib.hid (fun W E (h : Side w E W) => bx_lives h)
  clear hs hg
  unfold setV
  unfold setO at S0 c0 c1 c2 c3 KN
  go_enter Try.func8, Try.ntmps8
  go_wp2_with fail
  refine KN.mono ?_
  rintro e w5 ⟨p, rfl, s5⟩
  have KL2 := KL.out _ _ s5
  clear s5 KN KL S0 c0 c1 c2 c3
  go_wp2_with fail
  refine KL2.mono ?_
  rintro e w7 ⟨rfl, hb⟩
  clear KL2
  go_wp2_with fail
  go_ret
  exact ⟨rfl, hb⟩

theorem bytes_drew {W : World} {E : List (Nat × Thing)} {i p : Nat} {V : SkV} (h : Side w E W) (hx : (i, Sk p V) ∈ E) :
    Calls Try.prog 22 #[.pointer (some ⟨p, 0, none⟩)] (W.alloc zeroO).drew fun e w' => ∃ v, e = .returned v ∧ StP w E (bytesL V.L) W.heap.size v w' :=
  StP.bytes (W := W.drew) h.drew hx

/-- a sketch (and the settings' box) while numbers are put into it -/
def BkA (w : World) (t : Nat) (sa : Option Addr) (n sc : Nat) (S : List (Nat × Nat)) (k m : Int) (p : Nat) (W : World) : Prop := ∃ V : SkV, V.t = t ∧ V.seeds = S ∧ Side w [(0, Sk p V), Bx w t sa n sc k m] W
/-- both -/
def BkB (w : World) (t : Nat) (sa : Option Addr) (n sc : Nat) (S : List (Nat × Nat)) (k m : Int) (p q : Nat) (W : World) : Prop := ∃ V : SkV, V.t = t ∧ V.seeds = S ∧ Side w [(1, Sk q V), (0, Sk p V), Bx w t sa n sc k m] W
/-- one of them is a number ahead -/
def BkC (w : World) (t : Nat) (sa : Option Addr) (n sc : Nat) (S : List (Nat × Nat)) (k m : Int) (p q x : Nat) (W : World) : Prop := ∃ V : SkV, V.t = t ∧ V.seeds = S ∧ Side w [(1, Sk q V), (0, Sk p (V.ins x)), Bx w t sa n sc k m] W
section
variable {W : World} {t p q x : Nat} {k m : Int}
theorem bkA_ins (h : BkA w t sa n sc S k m p W) (hx : x < 18446744073709551616) :
    Calls Try.prog 14 #[.pointer (some ⟨p, 0, none⟩), .int .u64 (x : Int)] W fun e w' => e = .returned (.tuple #[]) ∧ BkA w t sa n sc S k m p w' := by
  obtain ⟨V, ht, hS, h⟩ := h
  exact (side_ins h (fun e he => by simp at he; subst he; simp) hx).mono fun _ _ ⟨a, b⟩ => ⟨a, V.ins x, ht, hS, b.out⟩
theorem bkB_ins (h : BkB w t sa n sc S k m p q W) (hx : x < 18446744073709551616) :
    Calls Try.prog 14 #[.pointer (some ⟨p, 0, none⟩), .int .u64 (x : Int)] W fun e w' => e = .returned (.tuple #[]) ∧ BkC w t sa n sc S k m p q x w' := by
  obtain ⟨V, ht, hS, h⟩ := h
  have h1 := h.sub (E' := [(0, Sk p V), (1, Sk q V), Bx w t sa n sc k m]) (fun x hx => by simp at hx; rcases hx with rfl | rfl | rfl <;> simp)
  exact (side_ins h1 (fun e he => by simp at he; rcases he with rfl | rfl <;> simp) hx).mono fun _ _ ⟨a, b⟩ => ⟨a, V, ht, hS, b.out.sub (fun x hx => by simp at hx; rcases hx with rfl | rfl | rfl <;> simp)⟩
theorem bkC_ins (h : BkC w t sa n sc S k m p q x W) (hx : x < 18446744073709551616) :
    Calls Try.prog 14 #[.pointer (some ⟨q, 0, none⟩), .int .u64 (x : Int)] W fun e w' => e = .returned (.tuple #[]) ∧ BkB w t sa n sc S k m p q w' := by
  obtain ⟨V, ht, hS, h⟩ := h
  exact (side_ins h (fun e he => by simp at he; rcases he with rfl | rfl <;> simp) hx).mono fun _ _ ⟨a, b⟩ => ⟨a, V.ins x, ht, hS, b.out⟩
end

set_option maxHeartbeats 6400000 in
theorem back_main (hs : SetAt w sa n sc S) (t : Nat) (k m : Int) (hg : goodB t S k m = true) (la lb : Option Addr) (lc le : Nat) {l b : List Nat} (hl : Holds w (.slice la l.length lc) (nats l)) (hb : Holds w (.slice lb b.length le) (nats b))
    (hlt : ∀ x ∈ l, x < 18446744073709551616) (hbt : ∀ x ∈ b, x < 18446744073709551616) (h1 : l.length ≤ 9223372036854775807) (h2 : b.length ≤ 9223372036854775807) (hln : decide ((300 : Int) < wrap64 ((l.length : Int) + (b.length : Int))) = false) :
    Calls Try.prog 8 #[setV t sa n sc k m, .slice la l.length lc, .slice lb b.length le] w fun e w' => e = .returned (.bool true) ∧ Below w.heap.size w w' := by
  have S0 := bx_start w t sa n sc k m
  obtain ⟨c0, c1, c2, c3⟩ := bx_cells S0 (List.mem_cons_self ..)
  have KN := bx_new hs t k m hg S0 0
  have HS := Lib.hid hs
  have HGD := Lib.hid hg
  have HL := Lib.hid hl
  have HB := Lib.hid hb
  have HLT := Lib.hid hlt
  have HBT := Lib.hid hbt
  clear hs hg hl hb hlt hbt
  generalize hn' : l.length = ln at *
  generalize hb' : b.length = ld at *
  have HLN := Lib.hid hn'
  have HBN := Lib.hid hb'
  clear hn' hb'
  have H1 := Lib.hid h1
  have H2 := Lib.hid h2
  clear h1 h2
  unfold setV
  unfold setO at S0 c0 c1 c2 c3 KN
  go_enter Try.func8, Try.ntmps8
  go_wp2_with fail
  refine KN.mono ?_
  rintro e w5 ⟨p, rfl, s5⟩
  have HA : Hid (BkA w t sa n sc S k m p w5) := Lib.hid ⟨_, rfl, rfl, s5⟩
  clear s5 S0 KN c0 c1 c2 c3
  go_wp2_with fail
  clear hln
  have h1 := H1.out
  go_loopw [9, 31] (fun _ j wr => ∃ r : Nat, j = .int .i64 r ∧ r ≤ ln ∧ Hid (BkA w t sa n sc S k m p wr)) (fun _ j _ => ln - (intOf j).toNat)
  case atStart => exact ⟨0, rfl, Nat.zero_le _, HA.out⟩
  case round =>
    obtain ⟨r, rfl, hr, HR⟩ := hrel
    by_cases hlt : r < ln
    · have hrl : r < l.length := by rw [HLN.out]; exact hlt
      have hH := HL.out.below (show Below w.heap.size w wr by obtain ⟨_, _, _, h⟩ := HR.out; exact h.base)
      obtain ⟨ad, rfl⟩ := hH.ptr (by omega)
      have e0 := hH.cell (nats_at hrl)
      have hx := HLT.out _ (List.getElem_mem hrl)
      generalize l[r] = x at *
      have b0 : (0 : Int) ≤ (r : Int) := by omega
      have b1 : (r : Int) < (ln : Int) := by omega
      have K0 := bkA_ins HR.out hx
      clear hH HR hx HA
      go_wp2_with fail
      refine K0.mono ?_
      rintro e w8 ⟨rfl, s8⟩
      have HQ := Lib.hid s8
      clear K0 s8 e0
      go_wp2_with fail
      go_roundw
      case rel => exact ⟨r + 1, by go_num, by omega, HQ⟩
      case measure => simp [intOf]; omega
    · obtain ⟨V, ht, hS, hV⟩ := HR.out
      clear HR HA
      obtain ⟨wo, rfl⟩ : ∃ wo : World, wo = wr := ⟨_, rfl⟩
      have hG := side_good (p := p) hV (.head _)
      obtain ⟨c0, c1, c2, c3⟩ := bx_cells hV (.tail _ (.head _))
      have S1 := hV.drew
      have KB := Lib.hid (fun W (h : Side w [(0, Sk p V), Bx w t sa n sc k m] W) => StQ.bytes (p := p) h (.head _))
      have KL := Lib.hid (fun W a bn c (h : StQ w [(0, Sk p V), Bx w t sa n sc k m] (bytesL V.L) (.slice a bn c) W) => back_load HS.out HGD.out (fun e he => by simp at he; rcases he with rfl | rfl <;> simp) ht hS hG h)
      have HZ := Lib.hid (bytes_small hG)
      have HGV := Lib.hid hG
      clear hV hG
      unfold setV at KL
      obtain ⟨Z, hZ⟩ : ∃ Z, Z = bytesL V.L := ⟨_, rfl⟩
      have HF := Lib.hid (fun W v (h : StQ w [(0, Sk p V), Bx w t sa n sc k m] (bytesL V.L) v W) => bx_cells h.side (.tail _ (.head _)))
      have HC := Lib.hid (fun W (h : Side w [(0, Sk p V), Bx w t sa n sc k m] W) => bx_cells h (.tail _ (.head _)))
      have HC7 := Lib.hid (fun W q (h : Side w [(1, Sk q V), (0, Sk p V), Bx w t sa n sc k m] W) => bx_cells h (.tail _ (.tail _ (.head _))))
      have HV2 := Lib.hid (And.intro ht hS)
      clear ht hS h1 hZ
      go_wp2_with fail
      go_region_held3 (fun w' => w'.cell? ⟨w.heap.size, 0, none⟩ = some (.int .i64 t) ∧ w'.cell? ⟨w.heap.size, 1, none⟩ = some (.slice sa n sc) ∧ w'.cell? ⟨w.heap.size, 2, none⟩ = some (.int .i64 k) ∧ w'.cell? ⟨w.heap.size, 3, none⟩ = some (.int .i64 m))
        (first | assumption | exact HC.out _ (by assumption) | exact HF.out _ _ (by assumption) | exact HC7.out _ _ (by assumption))
        (first
          | (go_at_call 22; refine (KB.out _ (by assumption)).mono ?_; rintro e w6 ⟨v6, rfl, s6⟩; obtain ⟨a6, c6, rfl⟩ := s6.form)
          | (go_at_call 27; refine (KL.out _ _ _ _ (by assumption)).mono ?_; rintro e w7 ⟨q, rfl, s7⟩))
      have HB7 : Hid (BkB w t sa n sc S k m p q w7) := Lib.hid ⟨V, HV2.out.1, HV2.out.2, s7⟩
      rename_i hheld
      clear s6 s7 hheld KB KL HF HC HC7 HV2 HZ HGV S1 c0 c1 c2 c3
      have h2 := H2.out
      go_wp2_with fail
      go_loopw [13, 54] (fun _ j wr => ∃ r : Nat, j = .int .i64 r ∧ r ≤ ld ∧ Hid (BkB w t sa n sc S k m p q wr)) (fun _ j _ => ld - (intOf j).toNat)
      case atStart => exact ⟨0, rfl, Nat.zero_le _, HB7.out⟩
      case round =>
        obtain ⟨r, rfl, hr, HR⟩ := hrel
        by_cases hlt : r < ld
        · have hrl : r < b.length := by rw [HBN.out]; exact hlt
          have hH := HB.out.below (show Below w.heap.size w wr by obtain ⟨_, _, _, h⟩ := HR.out; exact h.base)
          obtain ⟨ad, rfl⟩ := hH.ptr (by omega)
          have e0 := hH.cell (nats_at hrl)
          have hx := HBT.out _ (List.getElem_mem hrl)
          generalize b[r] = x at *
          have b0 : (0 : Int) ≤ (r : Int) := by omega
          have b1 : (r : Int) < (ld : Int) := by omega
          have K0 := bkB_ins HR.out hx
          have K1 := Lib.hid (fun W (h : BkC w t sa n sc S k m p q x W) => bkC_ins h hx)
          clear hH HR hx HB7
          go_wp2_with fail
          refine K0.mono ?_
          rintro e w8 ⟨rfl, s8⟩
          have K2 := K1.out _ s8
          clear K0 K1 s8 e0
          go_wp2_with fail
          refine K2.mono ?_
          rintro e w9 ⟨rfl, s9⟩
          have HQ := Lib.hid s9
          clear K2 s9
          go_wp2_with fail
          go_roundw
          case rel => exact ⟨r + 1, by go_num, by omega, HQ⟩
          case measure => simp [intOf]; omega
        · obtain ⟨V, ht, hS, hV⟩ := HR.out
          clear HR HB7 h2
          obtain ⟨wo, rfl⟩ : ∃ wo : World, wo = wr := ⟨_, rfl⟩
          have hG := side_good (p := p) hV (.tail _ (.head _))
          have hz := bytes_small hG
          obtain ⟨c0, c1, c2, c3⟩ := bx_cells hV (.tail _ (.tail _ (.head _)))
          have S1 := hV.drew
          have KB := Lib.hid (fun W (h : Side w [(1, Sk q V), (0, Sk p V), Bx w t sa n sc k m] W) => StQ.bytes (p := p) h (.tail _ (.head _)))
          have KB2 := Lib.hid (fun W (h : Side w [(1, Sk q V), (0, Sk p V), Bx w t sa n sc k m] W) => StP.bytes (p := p) h (.tail _ (.head _)))
          have KP := Lib.hid (fun W v (h : StQ w [(1, Sk q V), (0, Sk p V), Bx w t sa n sc k m] (bytesL V.L) v W) => h.late.app (by omega))
          have KP2 := Lib.hid (fun W b v (h : StP w [(1, Sk q V), (0, Sk p V), Bx w t sa n sc k m] (bytesL V.L) b v W) => h.app (by omega))
          have KL := Lib.hid (fun W v (h : StR w [(1, Sk q V), (0, Sk p V), Bx w t sa n sc k m] (bytesL V.L) v W) => back_trail HS.out HGD.out (fun e he => by simp at he; rcases he with rfl | rfl | rfl <;> simp) ht hS hG h)
          have HC := Lib.hid (fun W (h : Side w [(1, Sk q V), (0, Sk p V), Bx w t sa n sc k m] W) => bx_cells h (.tail _ (.tail _ (.head _))))
          have HCA := Lib.hid (fun W (h : Side w [(1, Sk q V), (0, Sk p V), Bx w t sa n sc k m] W) => bx_cells (h.below ((Below.refl W.heap.size W).alloc (Nat.le_refl _) zeroO)) (.tail _ (.tail _ (.head _))))
          have HCAD := Lib.hid (fun W (h : Side w [(1, Sk q V), (0, Sk p V), Bx w t sa n sc k m] W) => bx_cells (h.below ((Below.refl W.heap.size W).alloc (Nat.le_refl _) zeroO)).drew (.tail _ (.tail _ (.head _))))
          have KB3 := Lib.hid (fun W (h : Side w [(1, Sk q V), (0, Sk p V), Bx w t sa n sc k m] W) => bytes_drew (p := p) h (.tail _ (.head _)))
          have HCQ := Lib.hid (fun W v (h : StQ w [(1, Sk q V), (0, Sk p V), Bx w t sa n sc k m] (bytesL V.L) v W) => bx_cells h.side (.tail _ (.tail _ (.head _))))
          have HCQA := Lib.hid (fun W v (h : StQ w [(1, Sk q V), (0, Sk p V), Bx w t sa n sc k m] (bytesL V.L) v W) => bx_cells h.late.q.side (.tail _ (.tail _ (.head _))))
          have HCP := Lib.hid (fun W b v (h : StP w [(1, Sk q V), (0, Sk p V), Bx w t sa n sc k m] (bytesL V.L) b v W) => bx_cells h.q.side (.tail _ (.tail _ (.head _))))
          have HCR := Lib.hid (fun W v (h : StR w [(1, Sk q V), (0, Sk p V), Bx w t sa n sc k m] (bytesL V.L) v W) => bx_cells h.side (.tail _ (.tail _ (.head _))))
          clear hG hz ht hS
          unfold setV at KL
          unfold zeroO at KB2 KB3 KP HCA HCAD HCQA
          go_wp2_with fail
          go_region_held3 (fun w' => w'.cell? ⟨w.heap.size, 0, none⟩ = some (.int .i64 t) ∧ w'.cell? ⟨w.heap.size, 1, none⟩ = some (.slice sa n sc) ∧ w'.cell? ⟨w.heap.size, 2, none⟩ = some (.int .i64 k) ∧ w'.cell? ⟨w.heap.size, 3, none⟩ = some (.int .i64 m))
            (first | assumption | exact HC.out _ (by assumption) | exact HCQ.out _ _ (by assumption) | exact HCP.out _ _ _ (by assumption) | exact HCR.out _ _ (by assumption) | exact HCA.out _ (by assumption) | exact HCAD.out _ (by assumption) | exact HCQA.out _ _ (by assumption))
            (first
              | (go_at_call 22; refine (KB.out _ (by assumption)).mono ?_; rintro e w8 ⟨v8, rfl, s8⟩)
              | (go_at_call 22; refine (KB2.out _ (by assumption)).mono ?_; rintro e w8 ⟨v8, rfl, s8⟩)
              | (go_at_call 22; refine (KB3.out _ (by assumption)).mono ?_; rintro e w8 ⟨v8, rfl, s8⟩)
              | (obtain ⟨v9, w9, hr9, s9⟩ := KP.out _ _ (by assumption); refine step_append_run rfl (.tmp 68) (.tmp 69) 46 rfl (by simp [Act.eval]) (by simp [Act.eval]) (hr9 _) ?_)
              | (obtain ⟨v9, w9, hr9, s9⟩ := KP2.out _ _ _ (by assumption); refine step_append_run rfl (.tmp 68) (.tmp 69) 46 rfl (by simp [Act.eval]) (by simp [Act.eval]) (hr9 _) ?_)
              | (go_at_call 27; refine (KL.out _ _ (by assumption)).mono ?_; rintro e w10 ⟨rfl, s10⟩))
          all_goals
            have S10 := Lib.hid s10
            have KB1 := side_bytes (i := 0) s10 (.tail _ (.head _))
            rename_i hheld
            clear s8 s9 s10 hheld S1 hV KB KB2 KB3 KP KP2 KL HC HCA HCAD HCQ HCQA HCP HCR c0 c1 c2 c3
            go_wp2_with fail
            refine KB1.mono ?_
            rintro e w12 ⟨v1, rfl, ho1, hb1⟩
            have S12 := Lib.hid (S10.out.below hb1)
            have KB2 := side_bytes (i := 1) S12.out (.head _)
            have HO1 := Lib.hid (Holds.of_row (by rw [u8s_len]; exact ho1))
            clear KB1 S10 hb1 ho1
            go_wp2_with fail
            refine KB2.mono ?_
            rintro e w13 ⟨v2, rfl, ho2, hb2⟩
            have S13 := Lib.hid (S12.out.below hb2)
            have KS := Same_any (HO1.out.below hb2) (Holds.of_row (by rw [u8s_len]; exact ho2))
            simp only [decide_true] at KS
            have KE := side_est (i := 0) S13.out (.tail _ (.head _))
            clear KB2 S12 HO1 hb2 ho2
            go_wp2_with fail
            refine KS.mono ?_
            rintro e w14 ⟨rfl, rfl⟩
            clear KS
            go_wp2_with fail
            refine KE.mono ?_
            rintro e w15 ⟨rfl, hb3⟩
            have S15 := Lib.hid (S13.out.below hb3)
            have KE2 := side_est (i := 1) S15.out (.head _)
            clear KE S13 hb3
            go_wp2_with fail
            refine KE2.mono ?_
            rintro e w16 ⟨rfl, hb4⟩
            have KL := bx_lives (S15.out.below hb4)
            clear KE2 S15 hb4
            go_wp2_with fail
            refine KL.mono ?_
            rintro e w21 ⟨rfl, hb⟩
            clear KL
            go_wp2_with fail
            go_ret
            exact ⟨rfl, hb⟩

theorem back_walk (hs : SetAt w sa n sc S) (t k m : Int) (la lb : Option Addr) (ln lc ld le : Nat) {l b : List UInt64} (hl : Holds w (.slice la ln lc) (u64s l)) (hb : Holds w (.slice lb ld le) (u64s b)) (hn : l.length = ln) (hn2 : b.length = ld) (h1 : ln ≤ 9223372036854775807) (h2 : ld ≤ 9223372036854775807) :
    Calls Try.prog 8 #[setV t sa n sc k m, .slice la ln lc, .slice lb ld le] w fun e w' => e = .returned (.bool true) ∧ Below w.heap.size w w' := by
  cases hg : goodB t S k m with
  | false => exact back_bad hs t k m hg la lb ln lc ld le
  | true =>
    obtain ⟨tn, rfl, _⟩ := goodB_set hg
    cases h : decide ((300 : Int) < wrap64 ((ln : Int) + (ld : Int))) with
    | true => exact back_long hs tn k m hg la lb ln lc ld le h
    | false =>
      rw [u64s_nats] at hl hb
      have e : (l.map UInt64.toNat).length = ln := by simpa using hn
      have e2 : (b.map UInt64.toNat).length = ld := by simpa using hn2
      subst e e2
      exact back_main hs tn k m hg la lb lc le hl hb (toNat_lt l) (toNat_lt b) h1 h2 h
end
end Go.Proofs.Ytadlfmdliinnnaa
