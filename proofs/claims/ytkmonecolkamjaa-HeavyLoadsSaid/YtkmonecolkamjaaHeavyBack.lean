/- The walk of HeavyBack: a sketch's bytes lead back, and it goes on as it would have. Conditions: slices that fit in memory. -/
import Derived.Test.YtkmonecolkamjaaHeavyLives
import Derived.Test.YtkmonecolkamjaaHeavyBoundsPlain
import Derived.Test.YtkmonecolkamjaaHeavyLoad
set_option maxRecDepth 100000
namespace Go.Proofs.Ytkmonecolkamjaa
open Go.RowKit Go.Maps Go.Sort

theorem insAll_append (V : HV) (a b : List Int) : insAll (insAll V a) b = insAll V (a ++ b) := by simp [insAll]
theorem side_facts {w0 w : World} {E : List (Nat × Thing)} {i p : Nat} {V : HV} (h : Side w0 E w) (hx : (i, Hk p V) ∈ E) : V.Good ∧ Asc V.L ∧ ∀ q ∈ V.L, InI q.1 ∧ InI q.2 := by
  obtain ⟨T, b, hA, hG⟩ := side_thing h hx
  exact ⟨hG, hA.map.asc, hA.map.inI⟩
theorem bytes_small {V : HV} (hG : V.Good) (hI : ∀ q ∈ V.L, InI q.1 ∧ InI q.2) : V.bytes.length ≤ 1300 := by
  have h1 := bytesW_len V.words (words_lt hG hI)
  have h2 := words_len hG
  unfold HV.bytes
  omega
theorem bytes_pos (V : HV) : 0 < V.bytes.length := by
  have := dig_pos V.n
  unfold HV.bytes HV.words bytesW
  rw [List.flatMap_cons, List.length_append]
  omega
/-- a sketch's bytes beside everything else -/
def BySide (w0 W : World) (E : List (Nat × Thing)) (xs : List UInt8) (v : Value) (w' : World) : Prop := OwnB W xs v w' ∧ Side w0 E W
theorem side_bytes {w0 W : World} {E : List (Nat × Thing)} {i p : Nat} {V : HV} (h : Side w0 E W) (hx : (i, Hk p V) ∈ E) :
    Calls Try.prog 24 #[.pointer (some ⟨p, 0, none⟩)] W fun e w' => ∃ (ad : Addr) (c : Nat), e = .returned (.slice (some ad) V.bytes.length c) ∧ BySide w0 W E V.bytes (.slice (some ad) V.bytes.length c) w' := by
  obtain ⟨T, hT⟩ := side_thing h hx
  refine (bytes_any hT).mono ?_
  rintro e w' ⟨v, rfl, ho⟩
  have hh : Holds w' v (u8s V.bytes) := Holds.of_row (by rw [u8s_len]; exact ho.1)
  obtain ⟨a, c, rfl, _⟩ := hh.form
  rw [u8s_len] at hh ho ⊢
  obtain ⟨ad, rfl⟩ := hh.ptr (bytes_pos V)
  exact ⟨ad, c, rfl, ho, h⟩
theorem BySide.holds {w0 W w' : World} {E : List (Nat × Thing)} {xs : List UInt8} {v : Value} (h : BySide w0 W E xs v w') : Holds w' v (u8s xs) := Holds.of_row (by rw [u8s_len]; exact h.1.1)
theorem BySide.side {w0 W w' : World} {E : List (Nat × Thing)} {xs : List UInt8} {v : Value} (h : BySide w0 W E xs v w') : Side w0 E w' := h.2.below h.1.2
/-- Load at a sketch's bytes -/
theorem side_load {w0 W w' : World} {E : List (Nat × Thing)} {i p : Nat} {V : HV} {ad : Addr} {bn c : Nat} (h : BySide w0 W E V.bytes (.slice (some ad) bn c) w') (hx : (i, Hk p V) ∈ E) (hn : V.n ≤ 1000) (j : Nat) :
    Calls Try.prog 19 #[.int .i64 V.m, .slice (some ad) bn c] w' fun e w2 => ∃ q, e = .returned (.tuple #[.pointer (some ⟨q, 0, none⟩), .int .i64 0]) ∧ Hid (Side w0 ((j, Hk q V) :: E) w2) := by
  obtain ⟨hG, hA, hI⟩ := side_facts h.2 hx
  have hb := bytes_small hG hI
  have hl := h.holds.len
  rw [u8s_len] at hl
  refine (load_any h.side j hG (by omega) hA hI (tail := []) (by rw [List.append_nil]; exact h.holds) (by omega)).mono ?_
  rintro e w2 ⟨h | h, _⟩
  · obtain ⟨_, q, e1, h2⟩ := h
    exact ⟨q, e1, h2⟩
  · exact absurd rfl h.1
/-- Load at bytes with more behind -/
theorem side_trail {w0 W w' : World} {E : List (Nat × Thing)} {i p : Nat} {V : HV} {v : Value} (h : BySide w0 W E V.bytes v w') (hx : (i, Hk p V) ∈ E) (hn : V.n ≤ 1000) :
    ∃ (ad : Addr) (bn c : Nat) (w3 : World), Hid (∀ ty, (Builtin.append_ #[39, 39] ty #[v, .slice (some ⟨w'.heap.size, 0, none⟩) 1 1]).run Try.prog (w'.alloc (.cells #[.int .u8 0] 5)) = .ok (.slice (some ad) bn c) w3) ∧
    Calls Try.prog 19 #[.int .i64 V.m, .slice (some ad) bn c] w3 fun e w2 => e = .returned (.tuple #[.pointer none, .int .i64 8]) ∧ Hid (Side w0 E w2) := by
  obtain ⟨hG, hA, hI⟩ := side_facts h.2 hx
  have hbs := bytes_small hG hI
  have hs := h.1.2.size
  obtain ⟨v2, w3, r, o, g, bl⟩ := app8 (h.1.1.alloc (.cells #[.int .u8 0] 5)) (by simp; omega) (holds_one8 w' 0 0 rfl) (by simp; omega)
  have hh : Holds w3 v2 (u8s (V.bytes ++ [0])) := Holds.of_row (by rw [u8s_len]; exact o)
  obtain ⟨a, c, rfl, _⟩ := hh.form
  rw [u8s_len] at hh r
  obtain ⟨ad, rfl⟩ := hh.ptr (by simp)
  have gr2 : w'.grownBy w3 v.ownBlock := (World.grownBy_alloc w' _ v.ownBlock).andThen g (fun j hj => .inr hj)
  have hB : Below W.heap.size W w3 := h.1.2.trans (below_grown gr2 hs (fun x hx => ownsRow_ge h.1.1 x hx))
  refine ⟨ad, _, c, w3, r, (load_any (h.2.below hB) 0 hG (by omega) hA hI (tail := [0]) hh (by simp; omega)).mono ?_⟩
  rintro e w2 ⟨h | h, _⟩
  · exact absurd h.1 (by simp)
  · exact ⟨h.2.1, h.2.2⟩

set_option maxHeartbeats 6400000 in
theorem back_long {w : World} (u : Nat) (hu : u < 18446744073709551616) (la lb : Option Addr) (ln lc ld le : Nat) (h1 : ln ≤ 17592186044416) (h2 : ld ≤ 17592186044416) (hln : 300 < ln + ld) :
    Calls Try.prog 8 #[.int .u64 (u : Int), .slice la ln lc, .slice lb ld le] w fun e w' => e = .returned (.bool true) ∧ Below w.heap.size w w' := by
  obtain ⟨m, hm⟩ : ∃ m : Nat, m = 1 + u % 64 := ⟨_, rfl⟩
  have e1 : (1 : Int) + (u : Int) % 64 = (m : Int) := by omega
  have hu0 : (0 : Int) ≤ (u : Int) := by omega
  have hu1 : (u : Int) < 18446744073709551616 := by omega
  have KN := side_new (Side.nil w) 0 (m := m) (by omega) (by omega)
  have KL := Lib.hid (fun W => lives_any W)
  have wl : IntKind.i64.wrap ((ln : Int) + (ld : Int)) = (ln : Int) + (ld : Int) := by rw [IntKind.wrap_i64]; omega
  have tl : decide ((300 : Int) < (ln : Int) + (ld : Int)) = true := decide_eq_true (by omega)
  clear hm hln hu
  go_enter Try.func8, Try.ntmps8
  go_wp2_with fail
  refine KN.mono ?_
  rintro e w1 ⟨p, rfl, S1⟩
  have HB := Lib.hid S1.out.base
  have K3 := KL.out w1
  clear KN KL S1 e1 hu0 hu1
  go_wp2_with fail
  refine K3.mono ?_
  rintro e w3 ⟨rfl, hb⟩
  have HF := Lib.hid (HB.out.trans (hb.mono HB.out.size))
  clear K3 hb
  go_wp2_with fail
  go_ret
  exact ⟨rfl, HF.out⟩

theorem i64s_at' {l : List Int} {k : Nat} (h : k < l.length) : (i64s l)[k]? = some (.int .i64 l[k]) := by simp [i64s, h]

set_option maxHeartbeats 32000000 in
theorem back_short {w : World} (u : Nat) (hu : u < 18446744073709551616) (la lb : Option Addr) (ln lc ld le : Nat) (hln : ln + ld ≤ 300) {l r : List Int} (hl : Holds w (.slice la ln lc) (i64s l)) (hll : l.length = ln) (hx : ∀ x ∈ l, InI x)
    (hr : Holds w (.slice lb ld le) (i64s r)) (hrl : r.length = ld) (hy : ∀ x ∈ r, InI x) :
    Calls Try.prog 8 #[.int .u64 (u : Int), .slice la ln lc, .slice lb ld le] w fun e w' => e = .returned (.bool true) ∧ Below w.heap.size w w' := by
  obtain ⟨m, hm⟩ : ∃ m : Nat, m = 1 + u % 64 := ⟨_, rfl⟩
  have e1 : (1 : Int) + (u : Int) % 64 = (m : Int) := by omega
  have hu0 : (0 : Int) ≤ (u : Int) := by omega
  have hu1 : (u : Int) < 18446744073709551616 := by omega
  have KN := side_new (Side.nil w) 0 (m := m) (by omega) (by omega)
  have m1 : 1 ≤ m := by omega
  have m2 : m ≤ 64 := by omega
  have hn1 : ln ≤ 300 := by omega
  have hn2 : ld ≤ 300 := by omega
  have wl : IntKind.i64.wrap ((ln : Int) + (ld : Int)) = (ln : Int) + (ld : Int) := by rw [IntKind.wrap_i64]; omega
  have tl : decide ((300 : Int) < (ln : Int) + (ld : Int)) = false := decide_eq_false (by omega)
  have HM := Lib.hid (And.intro m1 (And.intro m2 hln))
  have HX := Lib.hid hx
  have HY := Lib.hid hy
  have HLL := Lib.hid hll
  have HRL := Lib.hid hrl
  have HL := Lib.hid hl
  have HR := Lib.hid hr
  have BD : Hid (∀ (q : List Int), q.length ≤ 300 → (insAll (HV.none_ m) q).n = q.length ∧ (insAll (HV.none_ m) q).m = m) := Lib.hid fun q hq => by
    have := Bd.all (m := m) m1 m2 q (by omega) q.length (Nat.le_refl _)
    rw [List.take_length] at this
    exact ⟨this.2.2.1, this.2.2.2⟩
  clear hm hu hx hy hll hrl hl hr m1 m2 hln
  go_enter Try.func8, Try.ntmps8
  go_wp2_with fail
  refine KN.mono ?_
  rintro e w1 ⟨p, rfl, S1⟩
  have HS1 := Lib.hid S1.out
  clear KN S1 e1 hu0 hu1
  go_wp2_with fail
  clear wl tl
  go_loopw [40] (fun s wr => ∃ k : Nat, s = .int .i64 k ∧ k ≤ ln ∧ Hid (Side w [(0, Hk p (insAll (HV.none_ m) (l.take k)))] wr)) (fun s _ => ln - (intOf s).toNat)
  case atStart => exact ⟨0, rfl, Nat.zero_le _, HS1.out⟩
  case round =>
    clear HS1
    obtain ⟨k, rfl, hk, HS⟩ := hrel
    by_cases hlt : k < ln
    · have hz : (k : Int) < (ln : Int) := by omega
      have hkl : k < l.length := by rw [HLL.out]; exact hlt
      have hh := HL.out.below HS.out.base
      obtain ⟨ad, hla⟩ := hh.ptr (by omega)
      subst hla
      have hc := hh.cell (i64s_at' hkl)
      have KI := side_ins HS.out (fun e he => by simp at he) (HX.out l[k] (List.getElem_mem hkl))
      rw [← insAll_take _ _ hkl] at KI
      generalize l[k] = X at hc KI
      clear hkl hh HS
      go_wp2_with fail
      refine KI.mono ?_
      rintro e w2 ⟨rfl, S2⟩
      clear KI hc
      go_wp2_with fail
      go_roundw
      case rel => exact ⟨k + 1, by go_num, by omega, S2⟩
      case measure => simp [intOf]; omega
    · obtain rfl : k = ln := by omega
      have hS := HS.out
      rw [List.take_of_length_le (by rw [HLL.out]; exact Nat.le_refl _)] at hS
      obtain ⟨b1, b2⟩ := BD.out l (by rw [HLL.out]; omega)
      rw [HLL.out] at b1
      obtain ⟨V, hV⟩ : ∃ V, V = insAll (HV.none_ m) l := ⟨_, rfl⟩
      rw [← hV] at hS b1 b2
      have HVE := Lib.hid hV
      have HVN := Lib.hid b1
      have HVM := Lib.hid b2
      have KB := side_bytes hS (List.mem_cons_self ..)
      clear HS hS b1 b2 hV
      go_wp2_with fail
      refine KB.mono ?_
      rintro e w2 ⟨ad, c, rfl, hBy⟩
      have KD := side_load hBy (List.mem_cons_self ..) (by rw [HVN.out]; omega) 1
      rw [HVM.out] at KD
      clear KB hBy
      go_wp2_with fail
      refine KD.mono ?_
      rintro e w3 ⟨q, rfl, S3⟩
      have HS3 : Hid (Side w [(1, Hk q (insAll V (r.take 0))), (0, Hk p (insAll V (r.take 0)))] w3) := S3
      clear KD S3
      go_wp2_with fail
      go_loopw [63] (fun s wr => ∃ j : Nat, s = .int .i64 j ∧ j ≤ ld ∧ Hid (Side w [(1, Hk q (insAll V (r.take j))), (0, Hk p (insAll V (r.take j)))] wr)) (fun s _ => ld - (intOf s).toNat)
      case atStart => exact ⟨0, rfl, Nat.zero_le _, HS3.out⟩
      case round =>
        clear HS3
        obtain ⟨j, rfl, hj, HS⟩ := hrel
        by_cases hlt2 : j < ld
        · have hz : (j : Int) < (ld : Int) := by omega
          have hkl : j < r.length := by rw [HRL.out]; exact hlt2
          have hh := HR.out.below HS.out.base
          obtain ⟨ad, hla⟩ := hh.ptr (by omega)
          subst hla
          have hc := hh.cell (i64s_at' hkl)
          have hxi := HY.out r[j] (List.getElem_mem hkl)
          have KI := side_ins (HS.out.sub (E' := [(0, Hk p (insAll V (r.take j))), (1, Hk q (insAll V (r.take j)))]) (fun x hx => by simp at hx ⊢; rcases hx with rfl | rfl <;> simp)) (fun e he => by simp at he; subst he; simp) hxi
          have HJ := Lib.hid fun W (h : Side w [(0, Hk p ((insAll V (r.take j)).ins r[j])), (1, Hk q (insAll V (r.take j)))] W) =>
            side_ins (h.sub (E' := [(1, Hk q (insAll V (r.take j))), (0, Hk p ((insAll V (r.take j)).ins r[j]))]) (fun x hx => by simp at hx ⊢; rcases hx with rfl | rfl <;> simp)) (fun e he => by simp at he; subst he; simp) hxi
          rw [← insAll_take _ _ hkl] at KI HJ
          generalize r[j] = X at hc KI HJ
          clear hkl hh HS hxi
          go_wp2_with fail
          refine KI.mono ?_
          rintro e w4 ⟨rfl, S4⟩
          have KI2 := HJ.out _ S4.out
          clear KI hc HJ S4
          go_wp2_with fail
          refine KI2.mono ?_
          rintro e w5 ⟨rfl, S5⟩
          clear KI2
          go_wp2_with fail
          go_roundw
          case rel => exact ⟨j + 1, by go_num, by omega, S5⟩
          case measure => simp [intOf]; omega
        · obtain rfl : j = ld := by omega
          have hS := HS.out
          rw [List.take_of_length_le (by rw [HRL.out]; exact Nat.le_refl _), HVE.out, insAll_append] at hS
          obtain ⟨b1, b2⟩ := BD.out (l ++ r) (by rw [List.length_append, HLL.out, HRL.out]; exact HM.out.2.2)
          rw [List.length_append, HLL.out, HRL.out] at b1
          obtain ⟨U, hU⟩ : ∃ U, U = insAll (HV.none_ m) (l ++ r) := ⟨_, rfl⟩
          rw [← hU] at hS b1 b2
          have HSU := Lib.hid hS
          have HUN := Lib.hid b1
          have HUM := Lib.hid b2
          have HUL : Hid (U.n ≤ 1000) := Lib.hid (by rw [b1]; have := HM.out; omega)
          have KB := side_bytes (i := 0) hS (.tail _ (.head _))
          clear HS hS b1 b2 hU HVE HVN HVM
          go_wp2_with fail
          refine KB.mono ?_
          rintro e w4 ⟨ad, c, rfl, hBy⟩
          obtain ⟨ad2, bn2, c2, w5, HRUN, KD⟩ := side_trail hBy (i := 0) (.tail _ (.head _)) HUL.out
          rw [HUM.out] at KD
          clear KB hBy HSU
          go_wp2_with (at_builtin; refine wpList_append_run rfl _ _ 39 rfl rfl rfl (HRUN.out _) ?_)
          refine KD.mono ?_
          rintro e w6 ⟨rfl, S6⟩
          have KB1 := side_bytes (i := 0) S6.out (.tail _ (.head _))
          clear KD HRUN S6
          go_wp2_with fail
          refine KB1.mono ?_
          rintro e w7 ⟨ad3, c3, rfl, hBy1⟩
          have HBy1 := Lib.hid hBy1
          have KB2 := side_bytes (i := 1) hBy1.side (.head _)
          clear KB1 hBy1
          go_wp2_with fail
          refine KB2.mono ?_
          rintro e w8 ⟨ad4, c4, rfl, hBy2⟩
          have KS := Same_any (HBy1.out.holds.below hBy2.1.2) hBy2.holds
          simp only [decide_true] at KS
          have KT := side_total (i := 1) hBy2.side (.head _)
          rw [HUN.out] at KT
          have HB8 := Lib.hid hBy2.side.base
          clear KB2 hBy2 HBy1
          go_wp2_with fail
          refine KS.mono ?_
          rintro e w9 ⟨rfl, rfl⟩
          clear KS
          go_wp2_with fail
          refine KT.mono ?_
          rintro e w9 ⟨rfl, rfl⟩
          clear KT
          go_wp2_with fail
          refine (lives_any _).mono ?_
          rintro e w10 ⟨rfl, hb⟩
          have HF := Lib.hid (HB8.out.trans (hb.mono HB8.out.size))
          clear hb HB8
          go_wp2_with fail
          go_ret
          exact ⟨rfl, HF.out⟩

theorem back_any {w : World} (u : Nat) (hu : u < 18446744073709551616) (la lb : Option Addr) (ln lc ld le : Nat) (h1 : ln ≤ 17592186044416) (h2 : ld ≤ 17592186044416) {l r : List Int} (hl : Holds w (.slice la ln lc) (i64s l)) (hll : l.length = ln) (hx : ∀ x ∈ l, InI x)
    (hr : Holds w (.slice lb ld le) (i64s r)) (hrl : r.length = ld) (hy : ∀ x ∈ r, InI x) :
    Calls Try.prog 8 #[.int .u64 (u : Int), .slice la ln lc, .slice lb ld le] w fun e w' => e = .returned (.bool true) ∧ Below w.heap.size w w' := by
  by_cases h : 300 < ln + ld
  · exact back_long u hu la lb ln lc ld le h1 h2 h
  · exact back_short u hu la lb ln lc ld le (by omega) hl hll hx hr hrl hy
end Go.Proofs.Ytkmonecolkamjaa
