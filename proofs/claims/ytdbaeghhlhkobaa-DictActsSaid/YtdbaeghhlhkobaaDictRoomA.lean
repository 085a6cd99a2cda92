/- Contract of Room of a dictionary; which values come in. Conditions: a dictionary that was made; at most a million values. -/
import Derived.Test.YtdbaeghhlhkobaaDictCopy
set_option maxRecDepth 100000
namespace Go.Proofs.Ytdbaeghhlhkobaa
open Go.RowKit Go.Maps Go.Sort Go.Lib Go.Shelf

theorem wi_step {m n : Nat} (h : m < n) (hn : n ≤ 4611686018427387904) : IntKind.i64.wrap ((m : Int) + 1) = (m : Int) + 1 := by rw [IntKind.wrap_i64]; omega
/-- all values of a list added, one after another -/
def addsL (K : Int) : List VV → List VV → List VV
  | L, [] => L
  | L, x :: r => addsL K (addL K L x) r
/-- would there be room? -/
def roomV (K : Int) : List VV → List VV → Bool
  | _, [] => true
  | L, x :: r => if addE K L x = 7 then false else roomV K (addL K L x) r
theorem room_step {K : Int} {L xs : List VV} {m : Nat} {x : VV} (hx : xs[m]? = some x) : roomV K L (xs.drop m) = if addE K L x = 7 then false else roomV K (addL K L x) (xs.drop (m + 1)) := by
  obtain ⟨hm, rfl⟩ := List.getElem?_eq_some_iff.1 hx
  rw [List.drop_eq_getElem_cons hm]
  rfl
theorem adds_snoc (K : Int) : ∀ (L xs : List VV) (x : VV), addsL K L (xs ++ [x]) = addL K (addsL K L xs) x
  | _, [], _ => rfl
  | L, y :: r, x => adds_snoc K (addL K L y) r x
theorem adds_take {K : Int} {L xs : List VV} {m : Nat} {x : VV} (hx : xs[m]? = some x) : addsL K L (xs.take (m + 1)) = addL K (addsL K L (xs.take m)) x := by
  obtain ⟨hm, rfl⟩ := List.getElem?_eq_some_iff.1 hx
  rw [← List.take_append_getElem hm, adds_snoc]
theorem addE_cases (K : Int) (L : List VV) (x : VV) : addE K L x = 0 ∨ addE K L x = 7 ∨ addE K L x = 12 := by
  unfold addE
  split
  · split
    · exact .inl rfl
    · split
      · exact .inr (.inl rfl)
      · exact .inl rfl
  · exact .inr (.inr rfl)
/-- a value of a row that came in, or of the call's own -/
def TyAll (xs : List VV) : Prop := ∀ x ∈ xs, x.ty

section
variable {T : Tags} {i : Nat} {w : World} {p : Nat} {K : Int} {L : List VV}
/-- by tags of one's own -/
theorem Dt.retag (h : Dt p K L T i w) : Dt p K L (fun _ => some 0) 0 w := by
  obtain ⟨b, v, h⟩ := h
  exact ⟨b, v, h.head, rfl, h.map, rfl, h.row, fun _ _ => rfl, h.k1, h.k4, h.len, h.ty⟩
/-- a copy, of the call's own, that goes on -/
def Own1 (w : World) (q : Nat) (K : Int) (L : List VV) (W : World) : Prop := Below w.heap.size w W ∧ ∃ T' : Tags, (∀ k, k < w.heap.size → T' k ≠ some 1) ∧ Dt q K L T' 1 W
theorem Own1.below {q : Nat} {W W' : World} (h : Own1 w q K L W) (hb : Below W.heap.size W W') : Own1 w q K L W' := by
  obtain ⟨h1, T', h2, h3⟩ := h
  exact ⟨h1.trans (hb.mono h1.size), T', h2, (Dt.framed q K L).below h3 hb⟩
theorem Own1.add {q : Nat} {W : World} (h : Own1 w q K L W) {x : VV} (hx : x.ty) : Calls Try.prog 15 #[.pointer (some ⟨q, 0, none⟩), x.val] W fun e w' =>
    e = .returned (.tuple #[.int .i64 (addI K L x), .int .i64 (addE K L x)]) ∧ Hid (Own1 w q K (addL K L x) w') := by
  obtain ⟨h1, T', h2, h3⟩ := h
  refine (dadd_any h3 hx).mono ?_
  rintro e w' ⟨he, hg⟩
  obtain ⟨T2, n2, e2, d2⟩ := hg.out
  refine ⟨he, Lib.hid ⟨h1.trans (e2.below h1.size fun x hx => ?_), T2, fun k hk => ?_, d2⟩⟩
  · rcases Nat.lt_or_ge x w.heap.size with g | g
    · exact absurd hx (h2 x g)
    · exact g
  · rw [n2 k (Nat.lt_of_lt_of_le hk h1.size)]; exact h2 k hk
theorem dcopy_own (h : Dt p K L T i w) : Calls Try.prog 11 #[.pointer (some ⟨p, 0, none⟩)] w fun e w' => ∃ q, e = .returned (.pointer (some ⟨q, 0, none⟩)) ∧ Hid (Own1 w q K L w') := by
  refine (dcopy_any (j := 1) h.retag).mono ?_
  rintro e w' ⟨q, he, hb, T', hn, hd⟩
  exact ⟨q, he, Lib.hid ⟨hb, T', fun k hk => by rw [hn k hk]; simp, hd⟩⟩
set_option maxHeartbeats 1600000 in
theorem droom_any (h : Dt p K L T i w) {v : Value} {xs : List VV} (hv : HoldsV w v xs) (hx : TyAll xs) (hl : xs.length ≤ 1000000) :
    Calls Try.prog 20 #[.pointer (some ⟨p, 0, none⟩), v] w fun e w' => e = .returned (.bool (roomV K L xs)) ∧ Below w.heap.size w w' := by
  obtain ⟨a, c, rfl, hc⟩ := hv.form
  have KM : Calls Try.prog 26 #[.pointer (some ⟨p, 0, none⟩)] w fun e w' => e = .returned (.bool true) ∧ w = w' := by
    obtain ⟨b, v, h⟩ := h
    exact dmade_at h.k1 h.cells.1
  have KC := dcopy_own h
  have HV := Lib.hid hv
  have HX := Lib.hid hx
  obtain ⟨N, hN⟩ : ∃ N, xs.length = N := ⟨_, rfl⟩
  obtain ⟨R, hR⟩ : ∃ R, roomV K L xs = R := ⟨_, rfl⟩
  rw [hN] at hc hl HV ⊢
  rw [hR]
  have HN := Lib.hid hN
  have HR := Lib.hid hR
  have HL := Lib.hid hl
  clear h hv hx hN hR hl hc
  go_enter Try.func20, Try.ntmps20
  go_wp2_with fail
  refine KM.mono ?_
  rintro e w' ⟨rfl, rfl⟩
  clear KM
  go_wp2_with fail
  refine KC.mono ?_
  rintro e w1 ⟨q, rfl, ho⟩
  clear KC
  go_wp2_with fail
  go_loopw [17] (fun s wr => ∃ m : Nat, s = .int .i64 m ∧ m ≤ N ∧ Hid (∃ M, Own1 w q K M wr ∧ roomV K M (xs.drop m) = R)) (fun s _ => N - (RowKit.intOf s).toNat)
  case atStart => exact ⟨0, rfl, Nat.zero_le _, L, ho.out, by rw [List.drop_zero]; exact HR.out⟩
  case round =>
    obtain ⟨m, rfl, hm, HS⟩ := hrel
    by_cases hlt : m < N
    · obtain ⟨x, hx⟩ : ∃ x, xs[m]? = some x := ⟨xs[m]'(HN.out ▸ hlt), List.getElem?_eq_getElem _⟩
      obtain ⟨M, hM, hE⟩ := HS.out
      rw [room_step hx] at hE
      have hxt := HX.out x (List.mem_of_getElem? hx)
      obtain ⟨ad, rfl, d0, d1, d2⟩ := (HV.out.below hM.1).at_ hx
      have KA := Lib.hid (fun W (hb : Below wr.heap.size wr W) => (hM.below hb).add hxt)
      have hb0 := (Below.refl wr.heap.size wr).alloc (Nat.le_refl _) (.cells #[.int .i64 x.k, .int .i64 x.n, .string x.s] 29)
      have KA1 := KA.out _ hb0
      have hw64 := wi_step hlt (Nat.le_trans HL.out (by decide))
      have b0 : (0 : Int) ≤ (m : Int) := Int.natCast_nonneg m
      have b1 : (m : Int) < (N : Int) := Int.ofNat_lt.2 hlt
      obtain ⟨E, hEE⟩ : ∃ E, addE K M x = E := ⟨_, rfl⟩
      obtain ⟨I, hI⟩ : ∃ I, addI K M x = I := ⟨_, rfl⟩
      rw [hEE, hI] at KA1
      rw [hEE] at hE
      have HE := Lib.hid hE
      have e7 : E = 7 ∨ (E == 7) = false := by
        rcases addE_cases K M x with g | g | g
        · rw [g] at hEE; subst hEE; exact .inr rfl
        · rw [g] at hEE; subst hEE; exact .inl rfl
        · rw [g] at hEE; subst hEE; exact .inr rfl
      obtain ⟨k, n, s⟩ := x
      simp only at d0 d1 d2 KA1
      clear hx hE hM hxt KA hb0 hEE hI HS
      go_wp2_with fail
      refine KA1.mono ?_
      rintro e w2 ⟨rfl, ho2⟩
      clear KA1
      rcases e7 with rfl | e7
      · have eR := HE.out
        rw [if_pos rfl] at eR
        subst eR
        have FB := Lib.hid ho2.out.1
        clear ho2 HE HV HX HR
        go_wp2_with fail
        go_ret
        exact ⟨rfl, FB.out⟩
      · have eR := HE.out
        rw [if_neg (by rw [beq_eq_false_iff_ne] at e7; exact e7)] at eR
        have HS2 : Hid (∃ M, Own1 w q K M w2 ∧ roomV K M (xs.drop (m + 1)) = R) := Lib.hid ⟨_, ho2.out, eR⟩
        clear ho2 HE eR
        go_wp2_with fail
        go_roundw
        case rel => exact ⟨m + 1, by go_num, hlt, HS2⟩
        case measure => simp [RowKit.intOf]; omega
    · obtain ⟨M, hM, hE⟩ := HS.out
      have e : xs.drop m = [] := List.drop_eq_nil_of_le (by have := HN.out; omega)
      rw [e] at hE
      have eR : true = R := hE
      subst eR
      have FB := Lib.hid hM.1
      clear hM HS HV HX HR hE e
      go_wp2_with fail
      go_ret
      exact ⟨rfl, FB.out⟩
end
end Go.Proofs.Ytdbaeghhlhkobaa
