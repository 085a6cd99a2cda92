/- Contracts of the document's own Copy and Room of a dictionary. Conditions: a dictionary that was made; at most a million values. -/
import Derived.Test.YtdbaeghhlhkobaaRDictAdd
set_option maxRecDepth 100000
namespace Go.Proofs.Ytdbaeghhlhkobaa
open Go.RowKit Go.Maps Go.Sort Go.Lib

section
variable {T : Tags} {i j : Nat} {w : World} {p : Nat} {K : Int} {L : List VV}
set_option maxHeartbeats 3200000 in
theorem rcopy_any (h : Rt p K L T i w) : Calls Try.prog 12 #[.pointer (some ⟨p, 0, none⟩)] w fun e w' => ∃ q, e = .returned (.pointer (some ⟨q, 0, none⟩)) ∧ Below w.heap.size w w' ∧ ∃ T', Next T w T' ∧ Rt q K L T' j w' := by
  obtain ⟨v, h⟩ := h
  obtain ⟨va, vc, rfl, _, _⟩ := h.row.form2
  have hl : L.length ≤ 1000000 := by have := h.len; omega
  obtain ⟨g, k, w1, hrun, hO, hbO⟩ := copy_vals (W := w.drew) (h.row.below (below_drew1 w)) hl
  have SC := Lib.hid fun W (hb : Below w.heap.size w W) => (show W.cell? ⟨p, 0, none⟩ = some (.int .i64 K) ∧ W.cell? ⟨p, 1, none⟩ = some (.slice va L.length vc) from by
    have h' := h.below hb
    exact ⟨h'.cells.1, h'.cells.2.1⟩)
  have HR1 : Hid (∀ ty, (Builtin.append_ #[22, 22] ty #[.slice (some ⟨w.heap.size, 0, none⟩) 0 0, .slice va L.length vc]).run Try.prog (w.alloc (.cells #[] 29)).drew = .ok (.slice (some ⟨g, 0, none⟩) L.length k) w1) := Lib.hid hrun
  have hb1 : Below w.heap.size w w1 := (below_drew1 w).trans hbO
  have S0 := SC.out _ (Below.refl _ w).drew
  have S1 := SC.out _ ((below_drew1 w).alloc (by show w.heap.size ≤ w.heap.size; exact Nat.le_refl _) (.cells #[] 29))
  have S2 := SC.out _ hb1
  have hb2 := hb1.alloc hb1.size (.cells #[.int .i64 K, .slice (some ⟨g, 0, none⟩) L.length k] 56)
  have S3 := SC.out _ hb2
  have FIN : Hid (∃ q, (Ending.returned (.pointer (some ⟨w1.heap.size, 0, none⟩)) : Ending) = .returned (.pointer (some ⟨q, 0, none⟩)) ∧ Below w.heap.size w (w1.alloc (.cells #[.int .i64 K, .slice (some ⟨g, 0, none⟩) L.length k] 56)) ∧
      ∃ T', Next T w T' ∧ Rt q K L T' j (w1.alloc (.cells #[.int .i64 K, .slice (some ⟨g, 0, none⟩) L.length k] 56))) := Lib.hid (by
    have hge : w.heap.size ≤ g := ownsRow_ge hO g rfl
    have hs := hb1.size
    refine ⟨_, rfl, hb2, T.one w.heap.size (some j), T.one_next w _, _, {
      head := heap_alloc_new w1 _
      tp := by unfold Tags.one; rw [if_neg (by omega)]
      row := RowV.below (ownsRow_rebase3 hO fun _ _ => Nat.zero_le _) ((Below.refl _ w1).alloc (Nat.le_refl _) _)
      tr := fun g' hg => by
        have e : g = g' := by simpa [Value.ownBlock] using hg
        subst e
        unfold Tags.one; rw [if_neg (by omega)]
      k1 := h.k1
      k4 := h.k4
      len := h.len
      ty := h.ty }⟩)
  clear h hl hrun hO hbO hb1 hb2 SC
  go_enter Try.func12, Try.ntmps12
  go_wp2_with fail
  refine wp_region_mix (fun W => W.cell? ⟨p, 0, none⟩ = some (.int .i64 K) ∧ W.cell? ⟨p, 1, none⟩ = some (.slice va L.length vc)) 13 [(true, 0), (true, 1), (true, 2), (true, 3), (true, 5), (true, 6), (true, 7), (true, 8), (false, 4), (false, 9), (false, 10), (false, 11), (false, 12)] (by kernel_rfl) (by decide +kernel) rfl (by decide +kernel) S0 ?_
  iterate 8
    refine wpMix_take (v := ?_) rfl rfl ?_ ?_
    rotate_left
    · (intro W hW; (try dsimp only at hW); go_simp) <;> with_reducible rfl
    simp only [Act.put, List.setIfInBounds_toArray, List.set_cons_zero, List.set_cons_succ]
  refine wpMix_run rfl ?_
  intro K' hK
  go_wp2_with fail
  refine hK.out _ _ (fun _ => S1) ?_
  clear hK K'
  refine wpMix_run rfl ?_
  intro K' hK
  refine wpList_append_run rfl _ _ 22 rfl rfl rfl (HR1.out _) ?_
  go_wp2_with fail
  refine hK.out _ _ (fun _ => S2) ?_
  clear hK K'
  refine wpMix_run rfl ?_
  intro K' hK
  go_wp2_with fail
  refine hK.out _ _ (fun _ => S2) ?_
  clear hK K'
  refine wpMix_run rfl ?_
  intro K' hK
  go_wp2_with fail
  refine hK.out _ _ (fun _ => S3) ?_
  clear hK K'
  refine wpMix_run rfl ?_
  intro K' hK
  go_wp2_with fail
  refine hK.out _ _ (fun _ => S3) ?_
  clear hK K'
  refine wpMix_nil ?_
  clear S0 S1 S2 S3 HR1
  go_wp2_with fail
  go_ret
  exact FIN.out
/-- by tags of one's own -/
theorem Rt.retag (h : Rt p K L T i w) : Rt p K L (fun _ => some 0) 0 w := by
  obtain ⟨v, h⟩ := h
  exact ⟨v, h.head, rfl, h.row, fun _ _ => rfl, h.k1, h.k4, h.len, h.ty⟩
/-- a copy, of the call's own, that goes on -/
def OwnR (w : World) (q : Nat) (K : Int) (L : List VV) (W : World) : Prop := Below w.heap.size w W ∧ ∃ T' : Tags, (∀ k, k < w.heap.size → T' k ≠ some 1) ∧ Rt q K L T' 1 W
theorem OwnR.below {q : Nat} {W W' : World} (h : OwnR w q K L W) (hb : Below W.heap.size W W') : OwnR w q K L W' := by
  obtain ⟨h1, T', h2, h3⟩ := h
  exact ⟨h1.trans (hb.mono h1.size), T', h2, (Rt.framed q K L).below h3 hb⟩
theorem OwnR.add {q : Nat} {W : World} (h : OwnR w q K L W) {x : VV} (hx : x.ty) : Calls Try.prog 16 #[.pointer (some ⟨q, 0, none⟩), x.val] W fun e w' =>
    e = .returned (.tuple #[.int .i64 (addI K L x), .int .i64 (addE K L x)]) ∧ Hid (OwnR w q K (addL K L x) w') := by
  obtain ⟨h1, T', h2, h3⟩ := h
  refine (radd_any h3 hx).mono ?_
  rintro e w' ⟨he, hg⟩
  obtain ⟨T2, n2, e2, d2⟩ := hg.out
  refine ⟨he, Lib.hid ⟨h1.trans (e2.below h1.size fun x hx => ?_), T2, fun k hk => ?_, d2⟩⟩
  · rcases Nat.lt_or_ge x w.heap.size with g | g
    · exact absurd hx (h2 x g)
    · exact g
  · rw [n2 k (Nat.lt_of_lt_of_le hk h1.size)]; exact h2 k hk
theorem rcopy_own (h : Rt p K L T i w) : Calls Try.prog 12 #[.pointer (some ⟨p, 0, none⟩)] w fun e w' => ∃ q, e = .returned (.pointer (some ⟨q, 0, none⟩)) ∧ Hid (OwnR w q K L w') := by
  refine (rcopy_any (j := 1) h.retag).mono ?_
  rintro e w' ⟨q, he, hb, T', hn, hd⟩
  exact ⟨q, he, Lib.hid ⟨hb, T', fun k hk => by rw [hn k hk]; simp, hd⟩⟩
set_option maxHeartbeats 1600000 in
theorem rroom_any (h : Rt p K L T i w) {v : Value} {xs : List VV} (hv : HoldsV w v xs) (hx : TyAll xs) (hl : xs.length ≤ 1000000) :
    Calls Try.prog 21 #[.pointer (some ⟨p, 0, none⟩), v] w fun e w' => e = .returned (.bool (roomV K L xs)) ∧ Below w.heap.size w w' := by
  obtain ⟨a, c, rfl, hc⟩ := hv.form
  have KC := rcopy_own h
  have HV := Lib.hid hv
  have HX := Lib.hid hx
  obtain ⟨N, hN⟩ : ∃ N, xs.length = N := ⟨_, rfl⟩
  obtain ⟨R, hR⟩ : ∃ R, roomV K L xs = R := ⟨_, rfl⟩
  rw [hN] at hc hl HV ⊢
  rw [hR]
  have HN := Lib.hid hN
  have HR := Lib.hid hR
  have HL := Lib.hid hl
  clear h hv hx hN hR hl hc
  go_enter Try.func21, Try.ntmps21
  go_wp2_with fail
  refine KC.mono ?_
  rintro e w1 ⟨q, rfl, ho⟩
  clear KC
  go_wp2_with fail
  go_loopw [14] (fun s wr => ∃ m : Nat, s = .int .i64 m ∧ m ≤ N ∧ Hid (∃ M, OwnR w q K M wr ∧ roomV K M (xs.drop m) = R)) (fun s _ => N - (RowKit.intOf s).toNat)
  case atStart => exact ⟨0, rfl, Nat.zero_le _, L, ho.out, by rw [List.drop_zero]; exact HR.out⟩
  case round =>
    obtain ⟨m, rfl, hm, HS⟩ := hrel
    by_cases hlt : m < N
    · obtain ⟨x, hx⟩ : ∃ x, xs[m]? = some x := ⟨xs[m]'(HN.out ▸ hlt), List.getElem?_eq_getElem _⟩
      obtain ⟨M, hM, hE⟩ := HS.out
      rw [room_step hx] at hE
      have hxt := HX.out x (List.mem_of_getElem? hx)
      obtain ⟨ad, rfl, d0, d1, d2⟩ := (HV.out.below hM.1).at_ hx
      have KA := Lib.hid (fun W (hb : Below wr.heap.size wr W) => (hM.below hb).add hxt)
      have hb0 := (Below.refl wr.heap.size wr).alloc (Nat.le_refl _) (.cells #[.int .i64 x.k, .int .i64 x.n, .string x.s] 29)
      have KA1 := KA.out _ hb0
      have hw64 := wi_step hlt (Nat.le_trans HL.out (by decide))
      have b0 : (0 : Int) ≤ (m : Int) := Int.natCast_nonneg m
      have b1 : (m : Int) < (N : Int) := Int.ofNat_lt.2 hlt
      obtain ⟨E, hEE⟩ : ∃ E, addE K M x = E := ⟨_, rfl⟩
      obtain ⟨I, hI⟩ : ∃ I, addI K M x = I := ⟨_, rfl⟩
      rw [hEE, hI] at KA1
      rw [hEE] at hE
      have HE := Lib.hid hE
      have e7 : E = 7 ∨ (E == 7) = false := by
        rcases addE_cases K M x with g | g | g
        · rw [g] at hEE; subst hEE; exact .inr rfl
        · rw [g] at hEE; subst hEE; exact .inl rfl
        · rw [g] at hEE; subst hEE; exact .inr rfl
      obtain ⟨k, n, s⟩ := x
      simp only at d0 d1 d2 KA1
      clear hx hE hM hxt KA hb0 hEE hI HS
      go_wp2_with fail
      refine KA1.mono ?_
      rintro e w2 ⟨rfl, ho2⟩
      clear KA1
      rcases e7 with rfl | e7
      · have eR := HE.out
        rw [if_pos rfl] at eR
        subst eR
        have FB := Lib.hid ho2.out.1
        clear ho2 HE HV HX HR
        go_wp2_with fail
        go_ret
        exact ⟨rfl, FB.out⟩
      · have eR := HE.out
        rw [if_neg (by rw [beq_eq_false_iff_ne] at e7; exact e7)] at eR
        have HS2 : Hid (∃ M, OwnR w q K M w2 ∧ roomV K M (xs.drop (m + 1)) = R) := Lib.hid ⟨_, ho2.out, eR⟩
        clear ho2 HE eR
        go_wp2_with fail
        go_roundw
        case rel => exact ⟨m + 1, by go_num, hlt, HS2⟩
        case measure => simp [RowKit.intOf]; omega
    · obtain ⟨M, hM, hE⟩ := HS.out
      have e : xs.drop m = [] := List.drop_eq_nil_of_le (by have := HN.out; omega)
      rw [e] at hE
      have eR : true = R := hE
      subst eR
      have FB := Lib.hid hM.1
      clear hM HS HV HX HR hE e
      go_wp2_with fail
      go_ret
      exact ⟨rfl, FB.out⟩
end
end Go.Proofs.Ytdbaeghhlhkobaa
