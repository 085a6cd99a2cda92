/- Plain mathematics of ids of rising ints, a row that several things stand beside, and the walk of DictRoom. Conditions: none. -/
import Derived.Test.YtdbaeghhlhkobaaDictCopies
set_option maxRecDepth 100000
namespace Go.Proofs.Ytdbaeghhlhkobaa
open Go.RowKit Go.Maps Go.Sort Go.Lib Go.Shelf

def intV (n : Int) : VV := ⟨1, n, ⟨#[]⟩⟩
theorem int_ty (n : Nat) (h : n ≤ 100000) : (intV n).ty := ⟨⟨by simp [intV], by simp [intV]⟩, ⟨by show _ ≤ (n : Int); omega, by show (n : Int) < _; omega⟩, by unfold maxLen; show (0 : Nat) ≤ _; omega⟩
theorem int_ok (n : Int) : okV 1 (intV n) = true := by
  unfold okV fitsV intV VV.good goodV
  simp [Lib.toList_data]
/-- the ids of the first ints -/
def seqV (n : Nat) : List VV := (List.range (min n 512)).map fun (i : Nat) => intV (i : Int)
theorem seq_len (n : Nat) : (seqV n).length = min n 512 := by simp [seqV]
theorem seq_none (n : Nat) : posV (seqV n) (intV n) = none := by
  rw [pos_none]
  intro h
  obtain ⟨i, hi, e⟩ := List.mem_map.1 h
  have e2 : (i : Int) = (n : Int) := congrArg VV.n e
  have := List.mem_range.1 hi
  omega
theorem seq_add (n : Nat) : addE 1 (seqV n) (intV n) = (if n < 512 then 0 else 7) ∧ addL 1 (seqV n) (intV n) = seqV (n + 1) := by
  have hl := seq_len n
  unfold addE addL
  rw [int_ok, seq_none]
  by_cases h : n < 512
  · have h1 : ¬ 512 ≤ (seqV n).length := by omega
    have h2 : (seqV n).length < 512 := by omega
    simp only [if_true, Option.isSome_none, Bool.false_eq_true, if_false, if_neg h1, if_pos h, Bool.not_false, Bool.and_true, decide_eq_true h2]
    refine ⟨trivial, ?_⟩
    unfold seqV
    have e1 : min n 512 = n := by omega
    have e2 : min (n + 1) 512 = n + 1 := by omega
    rw [e1, e2, List.range_succ, List.map_append]
    rfl
  · have h1 : 512 ≤ (seqV n).length := by omega
    have h2 : ¬ (seqV n).length < 512 := by omega
    simp only [if_true, Option.isSome_none, Bool.false_eq_true, if_false, if_pos h1, if_neg h, Bool.not_false, Bool.and_true, decide_eq_false h2]
    refine ⟨trivial, ?_⟩
    unfold seqV
    have e1 : min n 512 = 512 := by omega
    have e2 : min (n + 1) 512 = 512 := by omega
    rw [e1, e2]
    rfl
/-- do all get ids? -/
def allV (K : Int) : List VV → List VV → Bool
  | _, [] => true
  | L, x :: r => (addE K L x == 0) && allV K (addL K L x) r
theorem all_step {K : Int} {L xs : List VV} {m : Nat} {x : VV} (hx : xs[m]? = some x) : allV K L (xs.drop m) = ((addE K L x == 0) && allV K (addL K L x) (xs.drop (m + 1))) := by
  obtain ⟨hm, rfl⟩ := List.getElem?_eq_some_iff.1 hx
  rw [List.drop_eq_getElem_cons hm]
  rfl
theorem room_all {K : Int} : ∀ (L xs : List VV), (∀ x ∈ xs, okV K x = true) → roomV K L xs = allV K L xs
  | _, [], _ => rfl
  | L, x :: r, h => by
    have ih := room_all (addL K L x) r (fun y hy => h y (List.mem_cons_of_mem _ hy))
    have hx := h x (List.mem_cons_self ..)
    unfold roomV allV
    rw [ih]
    unfold addE
    rw [hx]
    simp only [if_true]
    split
    · simp
    · split <;> simp
/-- the ints that are asked for -/
def askV (n : Nat) : List VV := (List.range n).map fun (i : Nat) => intV (300 + (i : Int))
theorem ask_len (n : Nat) : (askV n).length = n := by simp [askV]
theorem ask_succ (n : Nat) : askV n ++ [⟨1, 300 + (n : Int), ⟨#[]⟩⟩] = askV (n + 1) := by
  unfold askV
  rw [List.range_succ, List.map_append]
  rfl
theorem ask_ok (n : Nat) : ∀ x ∈ askV n, okV 1 x = true := fun x hx => by
  obtain ⟨i, _, rfl⟩ := List.mem_map.1 hx
  exact int_ok _
theorem ask_ty (n : Nat) (hn : n ≤ 10000) : TyAll (askV n) := fun x hx => by
  obtain ⟨i, hi, rfl⟩ := List.mem_map.1 hx
  have := List.mem_range.1 hi
  have h := int_ty (300 + i) (by omega)
  have e : ((300 + i : Nat) : Int) = 300 + (i : Int) := by omega
  rw [e] at h
  exact h

/-- a row of values that is a thing -/
def Rv (v : Value) (L : List VV) : Thing := fun T i w => RowV 0 v L w ∧ ∀ g, v.ownBlock = some g → T g = some i
theorem Rv.framed (v : Value) (L : List VV) : Framed (Rv v L) := by
  rintro T T' i w w' ⟨h1, h2⟩ hT hw
  have hl := h1.lt
  exact ⟨h1.of_block fun g hg => hw g (hl g hg) (.inr (h2 g hg)), fun g hg => (hT g (hl g hg)).trans (h2 g hg)⟩
theorem Rv.push {T : Tags} {i : Nat} {w : World} {v : Value} {L : List VV} (h : Rv v L T i w) (x : VV) (hl : L.length ≤ 1000000) :
    ∃ v' w', (∀ ty, (Builtin.append_ #[22, 22] ty #[v, .slice (some ⟨w.heap.size, 0, none⟩) 1 1]).run Try.prog (w.alloc (.cells #[.int .i64 x.k, .int .i64 x.n, .string x.s] 29)) = .ok v' w') ∧ Goes T i w (Rv v' (L ++ [x])) w' := by
  obtain ⟨v', w', hr, hrow, hgr, hwh⟩ := push_value h.1 (Nat.zero_le _) x hl
  refine ⟨v', w', hr, T.one w.heap.size (some i), T.one_next w _, (Else.of_grown hgr).mono (fun k hk => h.2 k hk), hrow, fun g hg => ?_⟩
  unfold Tags.one
  split
  · rename_i hlt
    rcases hwh with e | e
    · exact h.2 g (e ▸ hg)
    · rw [hg] at e
      simp at e
      omega
  · rfl
theorem side_push {w0 w : World} {E : List (Nat × Thing)} {i : Nat} {v : Value} {L : List VV} (h : Side w0 ((i, Rv v L) :: E) w) (hi : ∀ e ∈ E, e.1 ≠ i) (x : VV) (hl : L.length ≤ 1000000) :
    ∃ a n c w', (∀ ty, (Builtin.append_ #[22, 22] ty #[v, .slice (some ⟨w.heap.size, 0, none⟩) 1 1]).run Try.prog (w.alloc (.cells #[.int .i64 x.k, .int .i64 x.n, .string x.s] 29)) = .ok (.slice a n c) w') ∧ Side w0 ((i, Rv (.slice a n c) (L ++ [x])) :: E) w' := by
  obtain ⟨T, h⟩ := h
  obtain ⟨v', w', hr, T', hn, hk, hA⟩ := ((h.at_ _ (List.mem_cons_self ..)).2 : Rv v L T i w).push x hl
  have hs : SideT w0 T E w := ⟨h.base, h.old, fun e he => h.at_ e (List.mem_cons_of_mem _ he)⟩
  have hs' := hs.next hn hk hi
  obtain ⟨a, c, rfl, _⟩ := hA.1.form2
  refine ⟨a, _, c, w', hr, T', hs'.base, hs'.old, fun e he => ?_⟩
  rcases List.mem_cons.1 he with rfl | he
  · exact ⟨Rv.framed _ _, hA⟩
  · exact hs'.at_ e he
theorem side_rvnil {w0 w : World} {E : List (Nat × Thing)} (h : Side w0 E w) (i : Nat) : Side w0 ((i, Rv (.slice none 0 0) []) :: E) w := by
  obtain ⟨T, h⟩ := h
  refine ⟨T, h.base, h.old, fun e he => ?_⟩
  rcases List.mem_cons.1 he with rfl | he
  · exact ⟨Rv.framed _ _, RowV.nil _ _, fun g hg => by simp [Value.ownBlock] at hg⟩
  · exact h.at_ e he
theorem side_rv {w0 w : World} {E : List (Nat × Thing)} (h : Side w0 E w) {i : Nat} {v : Value} {L : List VV} (hx : (i, Rv v L) ∈ E) : HoldsV w v L := by
  obtain ⟨T, h1, _⟩ := side_thing h hx
  exact h1.holds
theorem HoldsV.len_of {w : World} {a : Option Addr} {n c : Nat} {l : List VV} (h : HoldsV w (.slice a n c) l) : l.length = n := by
  obtain ⟨a', c', e, _⟩ := h
  simp only [Value.slice.injEq] at e
  exact e.2.1.symm
set_option maxHeartbeats 6400000 in
theorem room_walk {w : World} (n m : Nat) : Calls Try.prog 4 #[.int .u64 (n : Int), .int .u64 (m : Int)] w fun e w' => e = .returned (.bool true) ∧ Below w.heap.size w w' := by
  have KL := lives_any
  have KN := side_dnew (Side.nil w) 1 (K := 1) (by decide) (by decide)
  obtain ⟨A, hA⟩ : ∃ A, n % 600 = A := ⟨_, rfl⟩
  obtain ⟨B, hB⟩ : ∃ B, m % 600 = B := ⟨_, rfl⟩
  have hA6 : A ≤ 600 := by omega
  have hB6 : B ≤ 600 := by omega
  have mA : (n : Int).tmod 600 = (A : Int) := by rw [Int.tmod_eq_emod_of_nonneg (by omega)]; omega
  have mB : (m : Int).tmod 600 = (B : Int) := by rw [Int.tmod_eq_emod_of_nonneg (by omega)]; omega
  have mA2 : (n : Int) % 600 = (A : Int) := by omega
  have mB2 : (m : Int) % 600 = (B : Int) := by omega
  have wA : IntKind.i64.wrap (A : Int) = (A : Int) := by rw [IntKind.wrap_i64]; omega
  have wB : IntKind.i64.wrap (B : Int) = (B : Int) := by rw [IntKind.wrap_i64]; omega
  have HA := Lib.hid hA6
  have HB := Lib.hid hB6
  clear hA hB hA6 hB6
  go_enter Try.func4, Try.ntmps4
  go_wp2_with fail
  refine KN.mono ?_
  rintro e w1 ⟨q, rfl, h1⟩
  clear KN
  go_wp2_with fail
  go_loopw [8] (fun s wr => ∃ i : Nat, s = .int .i64 i ∧ i ≤ A ∧ Hid (Side w [(1, Dt q 1 (seqV i))] wr)) (fun s _ => A - (RowKit.intOf s).toNat)
  case atStart => exact ⟨0, rfl, Nat.zero_le _, h1⟩
  case round =>
    obtain ⟨i, rfl, hi, HS⟩ := hrel
    by_cases hlt : i < A
    · have KA : Calls Try.prog 15 #[.pointer (some ⟨q, 0, none⟩), .agg #[.int .i64 1, .int .i64 (i : Int), .string ⟨#[]⟩]] wr fun e w' => e = .returned (.tuple #[.int .i64 (addI 1 (seqV i) (intV i)), .int .i64 (if i < 512 then 0 else 7)]) ∧ Hid (Side w [(1, Dt q 1 (seqV (i + 1)))] w') := by
        have := side_dadd HS.out (by simp) (int_ty i (by have := HA.out; omega))
        rw [(seq_add i).1, (seq_add i).2] at this
        exact this
      have hw64 := wi_step hlt (by have := HA.out; omega)
      have b0 : (0 : Int) ≤ (i : Int) := Int.natCast_nonneg i
      have b1 : (i : Int) < (A : Int) := Int.ofNat_lt.2 hlt
      generalize addI 1 (seqV i) (intV i) = I at *
      by_cases h5 : i < 512
      · rw [if_pos h5] at KA
        have t5 : decide ((i : Int) < 512) = true := decide_eq_true (by omega)
        clear HS h1 h5
        go_wp2_with fail
        refine KA.mono ?_
        rintro e w2 ⟨rfl, ho2⟩
        clear KA
        go_wp2_with fail
        go_roundw
        case rel => exact ⟨i + 1, by go_num, hlt, ho2⟩
        case measure => simp [RowKit.intOf]; omega
      · rw [if_neg h5] at KA
        have t5 : decide ((i : Int) < 512) = false := decide_eq_false (by omega)
        clear HS h1 h5
        go_wp2_with fail
        refine KA.mono ?_
        rintro e w2 ⟨rfl, ho2⟩
        clear KA
        go_wp2_with fail
        go_roundw
        case rel => exact ⟨i + 1, by go_num, hlt, ho2⟩
        case measure => simp [RowKit.intOf]; omega
    · have HS2 := Lib.hid (side_rvnil HS.out 3)
      obtain ⟨L0, hL0⟩ : ∃ L0, seqV i = L0 := ⟨_, rfl⟩
      rw [hL0] at HS2
      have e0 : askV 0 = [] := rfl
      rw [← e0] at HS2
      clear HS h1 hL0 e0
      go_wp2_with fail
      go_loopw [11, 12] (fun v s wr => ∃ (j : Nat) (a : Option Addr) (n c : Nat), s = .int .i64 j ∧ j ≤ B ∧ v = .slice a n c ∧ Hid (Side w [(3, Rv (.slice a n c) (askV j)), (1, Dt q 1 L0)] wr)) (fun _ s _ => B - (RowKit.intOf s).toNat)
      case atStart => exact ⟨0, none, 0, 0, rfl, Nat.zero_le _, rfl, HS2⟩
      case round =>
        obtain ⟨j, a, nn, c, rfl, hj, rfl, HS⟩ := hrel
        by_cases hlt : j < B
        · have hB6 := HB.out
          obtain ⟨a', n', c', w', hrun, hS'⟩ := side_push HS.out (by simp) ⟨1, 300 + (j : Int), ⟨#[]⟩⟩ (by rw [ask_len]; omega)
          rw [ask_succ] at hS'
          have HR : Hid (∀ ty, (Builtin.append_ #[22, 22] ty #[.slice a nn c, .slice (some ⟨wr.heap.size, 0, none⟩) 1 1]).run Try.prog (wr.alloc (.cells #[.int .i64 1, .int .i64 (300 + (j : Int)), .string ⟨#[]⟩] 29)) = .ok (.slice a' n' c') w') := Lib.hid hrun
          have HS3 := Lib.hid hS'
          have hw64 := wi_step hlt (by omega)
          have hw3 : IntKind.i64.wrap (300 + (j : Int)) = 300 + (j : Int) := by rw [IntKind.wrap_i64]; omega
          have b0 : (0 : Int) ≤ (j : Int) := Int.natCast_nonneg j
          have b1 : (j : Int) < (B : Int) := Int.ofNat_lt.2 hlt
          clear HS HS2 hrun hS' hB6
          go_wp2_with (at_builtin; refine wpList_append_run rfl _ _ 22 rfl rfl rfl (HR.out _) ?_)
          go_roundw
          case rel => exact ⟨j + 1, a', n', c', by go_num, hlt, rfl, HS3⟩
          case measure => simp [RowKit.intOf]; omega
        · have hv := side_rv HS.out mem0
          have hnn : (askV j).length = nn := hv.len_of
          have hj6 : nn ≤ 600 := by rw [ask_len] at hnn; have := HB.out; omega
          have hty := ask_ty j (by have := HB.out; omega)
          have KR := side_droom HS.out mem1 hv hty (by rw [hnn]; omega)
          obtain ⟨R, hR⟩ : ∃ R, roomV 1 L0 (askV j) = R := ⟨_, rfl⟩
          have hR2 : allV 1 L0 (askV j) = R := by rw [← room_all L0 (askV j) (ask_ok j)]; exact hR
          rw [hR] at KR
          have HS0 := HS
          have HTY := Lib.hid hty
          have HNN := Lib.hid hnn
          have H6 := Lib.hid hj6
          have HR2 := Lib.hid hR2
          generalize askV j = xs at *
          clear HS2 HS hv hnn hj6 hty hR hR2
          go_wp2_with fail
          refine KR.mono ?_
          rintro e w3 ⟨rfl, hb⟩
          have HS3 := Lib.hid (HS0.out.below hb)
          clear KR hb HS0
          go_wp2_with fail
          go_loopw [14, 61] (fun al s wr => ∃ (b : Bool) (k : Nat), al = .bool b ∧ s = .int .i64 k ∧ k ≤ nn ∧ Hid (∃ M, Side w [(3, Rv (.slice a nn c) xs), (1, Dt q 1 M)] wr ∧ (b && allV 1 M (xs.drop k)) = R)) (fun _ s _ => nn - (RowKit.intOf s).toNat)
          case atStart => exact ⟨true, 0, rfl, rfl, Nat.zero_le _, L0, HS3.out, by rw [List.drop_zero]; exact HR2.out⟩
          case round =>
            obtain ⟨al, k, rfl, rfl, hk, HS⟩ := hrel
            by_cases hlt : k < nn
            · obtain ⟨x, hx⟩ : ∃ x, xs[k]? = some x := ⟨xs[k]'(HNN.out ▸ hlt), List.getElem?_eq_getElem _⟩
              obtain ⟨M, hM, hE⟩ := HS.out
              rw [all_step hx] at hE
              obtain ⟨ad, rfl, d0, d1, d2⟩ := (side_rv hM mem0).at_ hx
              have KA := add_round (Side.sub (E' := [(1, Dt q 1 M), (3, Rv (.slice (some ad) nn c) xs)]) hM (by simp)) (by simp) (HTY.out x (List.mem_of_getElem? hx))
              have hw64 := wi_step hlt (by have := H6.out; omega)
              have b0 : (0 : Int) ≤ (k : Int) := Int.natCast_nonneg k
              have b1 : (k : Int) < (nn : Int) := Int.ofNat_lt.2 hlt
              generalize addI 1 M x = I at *
              generalize addE 1 M x = E at *
              generalize addL 1 M x = M' at *
              have HE := Lib.hid hE
              obtain ⟨xk, y, s⟩ := x
              simp only at d0 d1 d2 KA
              clear hx hM HS HS3 hE hk
              cases al <;> cases e0 : (E == 0)
              all_goals (
                go_wp2_with fail
                refine KA.mono ?_
                rintro e w4 ⟨rfl, ho2⟩
                have eR := HE.out
                rw [e0] at eR
                have HE2 := Lib.hid eR
                clear eR HE KA
                go_wp2_with fail
                go_roundw
                case rel => first
                  | exact ⟨true, k + 1, rfl, by go_num, hlt, Lib.hid ⟨M', ho2.out.sub (by simp), by simpa using HE2.out⟩⟩
                  | exact ⟨false, k + 1, rfl, by go_num, hlt, Lib.hid ⟨M', ho2.out.sub (by simp), by simpa using HE2.out⟩⟩
                case measure => simp [RowKit.intOf]; omega)
            · obtain ⟨M, hM, hE⟩ := HS.out
              have e : xs.drop k = [] := List.drop_eq_nil_of_le (by have := HNN.out; omega)
              rw [e] at hE
              have eR : al = R := by simpa [allV] using hE
              subst eR
              have KLn := side_dlen hM mem1
              have hl := side_len hM mem1
              have hlz : decide ((M.length : Int) ≤ 512) = true := decide_eq_true (by omega)
              have hlz2 : decide (M.length ≤ 512) = true := decide_eq_true hl
              have hrr : (al == al) = true := by cases al <;> rfl
              have HBS := Lib.hid hM.base
              generalize M.length = ml at *
              clear HS HS3 hM hE e hk hl HR2 HTY
              go_wp2_with fail
              refine KLn.mono ?_
              rintro e w4 ⟨rfl, rfl⟩
              clear KLn
              go_wp2_with fail
              refine (KL _).mono ?_
              rintro e w' ⟨rfl, hb⟩
              have FB := Lib.hid (HBS.out.trans (hb.mono HBS.out.size))
              clear hb
              go_wp2_with fail
              go_ret
              exact ⟨rfl, FB.out⟩
end Go.Proofs.Ytdbaeghhlhkobaa
