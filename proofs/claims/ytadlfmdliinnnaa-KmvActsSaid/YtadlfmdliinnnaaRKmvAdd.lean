/- Contract of the reference's add: a number more in a list of the least. Conditions: a list that rises, at most 1000 numbers. -/
import Derived.Test.YtadlfmdliinnnaaKmvPlain
import Derived.Test.YtadlfmdliinnnaaKmvKeep
set_option maxRecDepth 100000
namespace Go.Proofs.Ytadlfmdliinnnaa
open Go.RowKit

/-- what the rest of a list gives -/
def addR (h : Nat) : Bool → List Nat → List Nat
  | d, [] => if d then [] else [h]
  | d, x :: xs => (if !d && decide (h ≤ x) then [h] else []) ++ (if x = h then [] else [x]) ++ addR h (d || (!d && decide (h ≤ x))) xs
theorem addR_true (h : Nat) : ∀ xs : List Nat, (∀ y ∈ xs, h < y) → addR h true xs = xs
  | [], _ => rfl
  | x :: xs, hx => by
    have h1 := hx x (List.mem_cons_self ..)
    unfold addR
    rw [if_neg (by simp), if_neg (by omega)]
    simp only [Bool.true_or, List.nil_append]
    rw [addR_true h xs (fun y hy => hx y (List.mem_cons_of_mem _ hy))]
    rfl
theorem addR_false (h : Nat) : ∀ l : List Nat, Up l → addR h false l = if h ∈ l then l else l.take (cntL h l) ++ h :: l.drop (cntL h l)
  | [], _ => by simp [addR, cntL]
  | x :: xs, hu => by
    obtain ⟨h1, h2⟩ := List.pairwise_cons.1 hu
    unfold addR
    by_cases g : h ≤ x
    · have ht := addR_true h xs (fun y hy => by have := h1 y hy; omega)
      simp only [Bool.not_false, Bool.true_and, Bool.false_or, decide_eq_true g, if_true]
      rw [ht]
      by_cases e : x = h
      · subst e
        simp
      · have hm : h ∉ x :: xs := fun hm => by
          rcases List.mem_cons.1 hm with rfl | hm
          · exact e rfl
          · have := h1 h hm; omega
        rw [if_neg e, if_neg hm, cntL_cons h x xs hu, if_neg (by omega)]
        rfl
    · have ih := addR_false h xs h2
      have hd : decide (h ≤ x) = false := decide_eq_false g
      rw [hd]
      simp only [Bool.and_false, Bool.or_false]
      rw [if_neg (by simp), if_neg (by omega : ¬ x = h), cntL_cons h x xs hu, if_pos (by omega : x < h)]
      have hne : h ≠ x := by omega
      have hm : (h ∈ x :: xs) ↔ h ∈ xs := by
        rw [List.mem_cons]
        exact ⟨fun hh => hh.resolve_left hne, .inr⟩
      by_cases hx : h ∈ xs
      · rw [if_pos hx] at ih
        rw [ih, if_pos (hm.2 hx)]; rfl
      · rw [if_neg hx] at ih
        rw [ih, if_neg (fun hh => hx (hm.1 hh))]; rfl
theorem addR_add {t h : Nat} {l : List Nat} (hu : Up l) (hl : l.length ≤ t) : (addR h false l).take t = addL t h l := by
  rw [addR_false h l hu]
  by_cases hm : h ∈ l
  · rw [if_pos hm, addL_old hm, List.take_of_length_le hl]
  · rw [if_neg hm, addL_new hm]
theorem addR_len (h : Nat) : ∀ (d : Bool) (l : List Nat), (addR h d l).length ≤ 2 * l.length + 1
  | d, [] => by unfold addR; split <;> simp
  | d, x :: xs => by
    unfold addR
    have := addR_len h (d || (!d && decide (h ≤ x))) xs
    simp only [List.length_append, List.length_cons]
    have a : (if (!d && decide (h ≤ x)) = true then [h] else []).length ≤ 1 := by split <;> simp
    have b : (if x = h then [] else [x]).length ≤ 1 := by split <;> simp
    omega
/-- what a round adds -/
theorem addR_drop (h : Nat) (d : Bool) (l : List Nat) (m : Nat) (hm : m < l.length) : addR h d (l.drop m) = (if !d && decide (h ≤ l[m]) then [h] else []) ++ (if l[m] = h then [] else [l[m]]) ++ addR h (d || (!d && decide (h ≤ l[m]))) (l.drop (m + 1)) := by
  rw [List.drop_eq_getElem_cons hm, addR]
theorem addR_any (h : Nat) : ∀ (d : Bool) (l : List Nat), d = false → (∃ x, x ∈ addR h d l)
  | d, [], hd => by subst hd; exact ⟨h, by simp [addR]⟩
  | d, x :: xs, hd => by
    subst hd
    unfold addR
    by_cases e : x = h
    · exact ⟨h, by subst e; simp⟩
    · exact ⟨x, by simp [e]⟩
theorem addR_pos (h : Nat) (l : List Nat) : 0 < (addR h false l).length := by
  obtain ⟨x, hx⟩ := addR_any h false l rfl
  exact List.length_pos_of_mem hx
end Go.Proofs.Ytadlfmdliinnnaa
namespace Go.Proofs.Ytadlfmdliinnnaa
open Go.RowKit Go.Maps Go.Sort

/-- numbers of the call's own -/
def OwnN (w : World) (xs : List Nat) (v : Value) (W : World) : Prop := W.ownsRow w.heap.size 32 1 v xs.length (nats xs) ∧ Below w.heap.size w W
theorem OwnN.push {w W : World} {xs : List Nat} {v : Value} (h : OwnN w xs v W) (x : Nat) (hx : xs.length ≤ 100000) :
    ∃ v' w', (∀ ty, (Builtin.append_ #[43, 43] ty #[v, .slice (some ⟨W.heap.size, 0, none⟩) 1 1]).run Try.prog (W.alloc (.cells #[.int .u64 (x : Int)] 32)) = .ok v' w') ∧ OwnN w (xs ++ [x]) v' w' := by
  have hb := (Below.refl W.heap.size W).alloc (Nat.le_refl _) (.cells #[.int .u64 (x : Int)] 32)
  have ho := ownsRow_below h.1 hb
  have hB : w.heap.size ≤ (W.alloc (.cells #[.int .u64 (x : Int)] 32)).heap.size := Nat.le_trans h.2.size hb.size
  obtain ⟨v', w', hr, h2, h3, h4⟩ := app_any (P := Try.prog) Try.underlying43 infoU64 (by omega) rfl (by rw [nats_len]; exact ho) hB
    (Holds.of_heap (alloc1 W (.cells #[.int .u64 (x : Int)] 32)) (l := nats [x]) rfl 1 1 rfl (Nat.le_refl _)) (nats_one _) (by simp [nats]; omega)
  refine ⟨v', w', hr, by rw [← nats_append, nats_len] at h2; exact h2, ?_⟩
  exact (h.2.trans (hb.mono h.2.size)).grown h3 hB (fun k hk => (ho.lt k hk).1)

theorem OwnN.cut {w W : World} {R : List Nat} {a : Option Addr} {n c t : Nat} (h : OwnN w R (.slice a n c) W) (hn : R.length = n) (h0 : 0 < n) (ht : t ≤ n) : OwnN w (R.take t) (.slice a t c) W := by
  refine ⟨?_, h.2⟩
  have h1 := h.1
  rw [hn] at h1
  have h2 := ownsRow_cut h1 hn h0 ht
  rwa [show (R.take t).length = t by rw [List.length_take]; omega]
/-- what add leaves -/
def AddAt (w : World) (xs : List Nat) (e : Ending) (w' : World) : Prop := ∃ v, e = .returned v ∧ OwnN w xs v w'

set_option maxHeartbeats 6400000 in
theorem radd_any {w : World} {a : Option Addr} {n c t h : Nat} {l : List Nat} (hl : Holds w (.slice a n c) (nats l)) (hu : Up l) (ht : l.length ≤ t) (hn : l.length = n) (h7 : n ≤ 1000) :
    Calls Try.prog 35 #[.slice a n c, .int .u64 (h : Int), .int .i64 (t : Int)] w (AddAt w (addL t h l)) := by
  have HL := Lib.hid hl
  have HN := Lib.hid hn
  have HF := Lib.hid (addR_add (h := h) hu ht)
  have HZ := Lib.hid (addR_len h false l)
  clear hl hu ht hn
  go_enter Try.func35, Try.ntmps35
  go_wp2_with fail
  go_loopw [7, 8, 13] (fun o dn j wr => ∃ (m : Nat) (d : Bool), j = .int .i64 m ∧ m ≤ n ∧ dn = .bool d ∧ Hid (∃ xs, OwnN w xs o wr ∧ xs ++ addR h d (l.drop m) = addR h false l)) (fun _ _ j _ => n - (intOf j).toNat)
  case atStart => exact ⟨0, false, rfl, Nat.zero_le _, rfl, [], ⟨World.ownsRow_nil _ _ _ _, Below.refl _ _⟩, by simp⟩
  case round =>
    obtain ⟨m, d, rfl, hm, rfl, HR⟩ := hrel
    obtain ⟨xs, hO, hE⟩ := HR.out
    have hxs : xs.length ≤ 3000 := by
      have h1 := congrArg List.length hE
      have h2 := HZ.out
      have h3 := HN.out
      rw [List.length_append] at h1
      omega
    by_cases hlt : m < n
    · have hml : m < l.length := by rw [HN.out]; exact hlt
      have hH := HL.out.below hO.2
      obtain ⟨ad, rfl⟩ := hH.ptr (by omega)
      have e0 := hH.cell (nats_at hml)
      rw [addR_drop h d l m hml, ← List.append_assoc, ← List.append_assoc] at hE
      generalize l[m] = x at *
      have b0 : (0 : Int) ≤ (m : Int) := by omega
      have b1 : (m : Int) < (n : Int) := by omega
      have HO := Lib.hid hO
      have HE := Lib.hid hE
      clear hH hO hE HR HL
      by_cases hxh : x = h
      · subst hxh
        have q1 : ((x : Int) != (x : Int)) = false := by simp
        have q2 : decide (x ≤ x) = true := decide_eq_true (Nat.le_refl _)
        cases d with
        | true =>
          have HQ : Hid (∃ xs, OwnN w xs u7 wr ∧ xs ++ addR x true (l.drop (m + 1)) = addR x false l) := Lib.hid ⟨xs, HO.out, by simpa using HE.out⟩
          clear HO HE
          go_wp2_with fail
          go_roundw
          case rel => exact ⟨m + 1, true, by go_num, by omega, rfl, HQ.out⟩
          case measure => simp [intOf]; omega
        | false =>
          obtain ⟨v1, w1, hr1, ho1⟩ := HO.out.push x (by omega)
          have HR1 := Lib.hid hr1
          have HQ : Hid (∃ xs, OwnN w xs v1 w1 ∧ xs ++ addR x true (l.drop (m + 1)) = addR x false l) := Lib.hid ⟨_, ho1, by simpa using HE.out⟩
          clear HO HE hr1 ho1
          go_wp2_with (at_builtin; refine wpList_append_run rfl _ _ 43 rfl rfl rfl (HR1.out _) ?_)
          go_roundw
          case rel => exact ⟨m + 1, true, by go_num, by omega, rfl, HQ.out⟩
          case measure => simp [intOf]; omega
      · have q1 : ((x : Int) != (h : Int)) = true := by rw [bne_iff_ne]; omega
        by_cases hle : h ≤ x
        · have q2 : decide (h ≤ x) = true := decide_eq_true hle
          cases d with
          | true =>
            obtain ⟨v1, w1, hr1, ho1⟩ := HO.out.push x (by omega)
            have HR1 := Lib.hid hr1
            have HQ : Hid (∃ xs, OwnN w xs v1 w1 ∧ xs ++ addR h true (l.drop (m + 1)) = addR h false l) := Lib.hid ⟨_, ho1, by simpa [hxh] using HE.out⟩
            clear HO HE hr1 ho1 hxh hle
            go_wp2_with (at_builtin; refine wpList_append_run rfl _ _ 43 rfl rfl rfl (HR1.out _) ?_)
            go_roundw
            case rel => exact ⟨m + 1, true, by go_num, by omega, rfl, HQ.out⟩
            case measure => simp [intOf]; omega
          | false =>
            obtain ⟨v1, w1, hr1, ho1⟩ := HO.out.push h (by omega)
            obtain ⟨v2, w2, hr2, ho2⟩ := ho1.push x (by rw [List.length_append]; simp; omega)
            have HR1 := Lib.hid hr1
            have HR2 := Lib.hid hr2
            have HQ : Hid (∃ xs, OwnN w xs v2 w2 ∧ xs ++ addR h true (l.drop (m + 1)) = addR h false l) := Lib.hid ⟨_, ho2, by simpa [hxh, hle] using HE.out⟩
            clear HO HE hr1 ho1 hr2 ho2 hxh hle
            go_wp2_with (first
              | (at_builtin; refine wpList_append_run rfl _ _ 43 rfl rfl rfl (HR1.out _) ?_)
              | (at_builtin; refine wpList_append_run rfl _ _ 43 rfl rfl rfl (HR2.out _) ?_))
            go_roundw
            case rel => exact ⟨m + 1, true, by go_num, by omega, rfl, HQ.out⟩
            case measure => simp [intOf]; omega
        · have q2 : decide (h ≤ x) = false := decide_eq_false hle
          obtain ⟨v1, w1, hr1, ho1⟩ := HO.out.push x (by omega)
          have HR1 := Lib.hid hr1
          have HQ : Hid (∃ xs, OwnN w xs v1 w1 ∧ xs ++ addR h d (l.drop (m + 1)) = addR h false l) := Lib.hid ⟨_, ho1, by simpa [hxh, hle] using HE.out⟩
          clear HO HE hr1 ho1 hxh hle
          cases d
          all_goals
            go_wp2_with (at_builtin; refine wpList_append_run rfl _ _ 43 rfl rfl rfl (HR1.out _) ?_)
            go_roundw
            case rel => exact ⟨m + 1, _, by go_num, by omega, rfl, HQ.out⟩
            case measure => simp [intOf]; omega
    · have hme : m = n := by omega
      rw [hme, ← HN.out, List.drop_length] at hE
      have hpos : 0 < (addR h false l).length := addR_pos h l
      have HP := Lib.hid hpos
      have hz := HZ.out
      have hl3 := HN.out
      cases d with
      | true =>
        have e : xs = addR h false l := by rw [← hE]; simp [addR]
        rw [e] at hO
        obtain ⟨a1, c1, rfl, hc, hcm⟩ := ownsRow_form hO.1
        have HO := Lib.hid hO
        clear hE e hO HR HL
        generalize hR : addR h false l = R at *
        generalize hrn : R.length = rn at *
        have HRN := Lib.hid hrn
        clear hR hrn
        unfold maxLen at hcm
        by_cases hrt : t < rn
        · have t1 : decide ((t : Int) < (rn : Int)) = true := decide_eq_true (by omega)
          have HQ := Lib.hid (HO.out.cut HRN.out hpos (t := t) (by omega))
          rw [HF.out] at HQ
          have t2 : t ≤ c1 := by omega
          clear HO HZ hz
          go_wp2_with fail
          go_ret
          exact ⟨_, rfl, HQ.out⟩
        · have t1 : decide ((t : Int) < (rn : Int)) = false := decide_eq_false (by omega)
          have HQ := HO
          have hF := HF.out
          rw [List.take_of_length_le (by have := HRN.out; omega)] at hF
          rw [hF] at HQ
          clear HO HZ hz hF
          go_wp2_with fail
          go_ret
          exact ⟨_, rfl, HQ.out⟩
      | false =>
        have e : xs ++ [h] = addR h false l := by rw [← hE]; simp [addR]
        obtain ⟨v1, w1, hr1, ho1⟩ := hO.push h (by omega)
        rw [e] at ho1
        have HR1 := Lib.hid hr1
        obtain ⟨a1, c1, rfl, hc, hcm⟩ := ownsRow_form ho1.1
        have HO := Lib.hid ho1
        clear hE e hO HR HL hr1 ho1
        generalize hR : addR h false l = R at *
        generalize hrn : R.length = rn at *
        have HRN := Lib.hid hrn
        clear hR hrn
        unfold maxLen at hcm
        by_cases hrt : t < rn
        · have t1 : decide ((t : Int) < (rn : Int)) = true := decide_eq_true (by omega)
          have HQ := Lib.hid (HO.out.cut HRN.out hpos (t := t) (by omega))
          rw [HF.out] at HQ
          have t2 : t ≤ c1 := by omega
          clear HO HZ hz
          go_wp2_with (at_builtin; refine wpList_append_run rfl _ _ 43 rfl rfl rfl (HR1.out _) ?_)
          go_ret
          exact ⟨_, rfl, HQ.out⟩
        · have t1 : decide ((t : Int) < (rn : Int)) = false := decide_eq_false (by omega)
          have HQ := HO
          have hF := HF.out
          rw [List.take_of_length_le (by have := HRN.out; omega)] at hF
          rw [hF] at HQ
          clear HO HZ hz hF
          go_wp2_with (at_builtin; refine wpList_append_run rfl _ _ 43 rfl rfl rfl (HR1.out _) ?_)
          go_ret
          exact ⟨_, rfl, HQ.out⟩
end Go.Proofs.Ytadlfmdliinnnaa
