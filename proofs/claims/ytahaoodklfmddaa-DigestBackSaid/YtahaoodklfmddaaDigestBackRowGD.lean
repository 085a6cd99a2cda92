/- The texts DigUniq DigBytes, one behind the other; each one's own comment says what it holds. -/
import Derived.Test.YtahaoodklfmddaaDigCov
import Derived.Test.YtahaoodklfmddaaDigNodes
import Derived.Test.YtahaoodklfmddaaDigestBackRowGC
/- Lifts of a level give the same in whatever order, so what fit leaves is one. Plain mathematics. Conditions: as stated. -/
set_option maxRecDepth 100000
namespace Go.Proofs.Ytahaoodklfmddaa
open Go.RowKit Go.Maps Go.Sort Go.Shelf

/-- two digests that count alike are alike -/
theorem dl_ext : ∀ {A B : DL}, DAsc A → DAsc B → (∀ q ∈ A, 1 ≤ q.2) → (∀ q ∈ B, 1 ≤ q.2) → (∀ x, dcnt A x = dcnt B x) → A = B
  | [], [], _, _, _, _, _ => rfl
  | [], b :: B, _, hB, _, hp, h => by
    have h1 := h b.1
    have h2 := dcnt_has hB hp (x := b.1) ⟨b, List.mem_cons_self .., rfl⟩
    rw [← h1] at h2
    simp [dcnt] at h2
  | a :: A, [], hA, _, hp, _, h => by
    have h1 := h a.1
    have h2 := dcnt_has hA hp (x := a.1) ⟨a, List.mem_cons_self .., rfl⟩
    rw [h1] at h2
    simp [dcnt] at h2
  | a :: A, b :: B, hA, hB, pA, pB, h => by
    have hasA : ∀ x, 1 ≤ dcnt (a :: A) x → ∃ q ∈ a :: A, q.1 = x := fun x hx => Classical.byContradiction fun hn => by
      rw [dcnt_none (fun p hp e => hn ⟨p, hp, e⟩)] at hx
      omega
    have hasB : ∀ x, 1 ≤ dcnt (b :: B) x → ∃ q ∈ b :: B, q.1 = x := fun x hx => Classical.byContradiction fun hn => by
      rw [dcnt_none (fun p hp e => hn ⟨p, hp, e⟩)] at hx
      omega
    have e1 : a.1 = b.1 := by
      obtain ⟨q, hq, e⟩ := hasB a.1 (by rw [← h]; exact dcnt_has hA pA ⟨a, List.mem_cons_self .., rfl⟩)
      obtain ⟨r, hr, e'⟩ := hasA b.1 (by rw [h]; exact dcnt_has hB pB ⟨b, List.mem_cons_self .., rfl⟩)
      rcases List.mem_cons.1 hq with rfl | hq
      · exact e.symm
      · rcases List.mem_cons.1 hr with rfl | hr
        · exact e'
        · have := dasc_head hB q hq
          have := dasc_head hA r hr
          omega
    have e2 : a.2 = b.2 := by
      have h1 := dcnt_mem hA (id := a.1) (c := a.2) (List.mem_cons_self ..)
      have h2 := dcnt_mem hB (id := b.1) (c := b.2) (List.mem_cons_self ..)
      rw [e1, h] at h1
      omega
    have e : a = b := Prod.ext e1 e2
    subst e
    rw [dl_ext (dasc_tail hA) (dasc_tail hB) (fun q hq => pA q (List.mem_cons_of_mem _ hq)) (fun q hq => pB q (List.mem_cons_of_mem _ hq)) fun x => ?_]
    have hx := h x
    by_cases hax : a.1 = x
    · rw [dcnt_none fun p hp e => by have := dasc_head hA p hp; omega, dcnt_none fun p hp e => by have := dasc_head hB p hp; omega]
    · simpa [dcnt, hax] using hx
/-- what a pair and its parent count -/
def allF (f : Nat → Int) (c : Nat) : Int := f c + f (sibC c) + f (upC c)
theorem allF_sib (f : Nat → Int) (c : Nat) : allF f (sibC c) = allF f c := by unfold allF; rw [sib_sib, up_sib]; omega
theorem allF_dcnt (L : DL) (c : Nat) : allC L c = allF (dcnt L) c := rfl
/-- same parent, same level: the same or the sibling -/
theorem xor_one_of_half {u v : Nat} (h : u / 2 = v / 2) : u = v ∨ u = v ^^^ 1 := by
  rcases Nat.mod_two_eq_zero_or_one u with a | a <;> rcases Nat.mod_two_eq_zero_or_one v with b | b
  · left; omega
  · right
    have e : v = 2 * (v / 2) + 1 := by omega
    have h2 : (v ^^^ 1) / 2 = v / 2 := xor_one_half v
    have h3 : (v ^^^ 1) % 2 = 0 := by have e := Nat.xor_mod_two_pow (a := v) (b := 1) (n := 1); rw [Nat.pow_one, b] at e; exact e
    omega
  · right
    have h2 : (v ^^^ 1) / 2 = v / 2 := xor_one_half v
    have h3 : (v ^^^ 1) % 2 = 1 := by have e := Nat.xor_mod_two_pow (a := v) (b := 1) (n := 1); rw [Nat.pow_one, b] at e; exact e
    omega
  · left; omega
theorem up_inj {c d : Nat} (hl : c / 18446744073709551616 = d / 18446744073709551616) (h : upC c = upC d) : c = d ∨ c = sibC d := by
  have h1 := up_lev c
  have h2 := up_lev d
  rw [h] at h1
  have h3 := cd_self c
  rcases xor_one_of_half (u := c % 18446744073709551616) (v := d % 18446744073709551616) (by omega) with e | e
  · left; omega
  · right
    unfold sibC
    rw [← hl, ← e]
    exact h3.symm
/-- the pair of a code is gone through -/
def PU (lv : Nat) (us : List UInt64) (c : Nat) : Prop := ∃ u ∈ us, cd lv u.toNat = c ∨ cd lv u.toNat = sibC c
theorem PU.sib {lv : Nat} {us : List UInt64} {c : Nat} : PU lv us (sibC c) ↔ PU lv us c := by
  unfold PU
  rw [sib_sib]
  exact ⟨fun ⟨u, h, e⟩ => ⟨u, h, e.symm⟩, fun ⟨u, h, e⟩ => ⟨u, h, e.symm⟩⟩
/-- a level's pairs lifted, those that are in P and few enough -/
structure StepR (most : Int) (lv : Nat) (P : Nat → Prop) (f g : Nat → Int) : Prop where
  yes : ∀ c, c / 18446744073709551616 = lv → P c → allF f c ≤ most → g c = 0 ∧ g (upC c) = allF f c
  no : ∀ c, c / 18446744073709551616 = lv → ¬ (P c ∧ allF f c ≤ most) → g c = f c ∧ g (upC c) = f (upC c)
  off : ∀ y, y / 18446744073709551616 ≠ lv → (∀ c, c / 18446744073709551616 = lv → upC c ≠ y) → g y = f y
theorem StepR.start (most : Int) (lv : Nat) (f : Nat → Int) : StepR most lv (PU lv []) f f where
  yes c _ h := by obtain ⟨u, hu, _⟩ := h; cases hu
  no c _ _ := ⟨rfl, rfl⟩
  off y _ _ := rfl
theorem StepR.uniq {most : Int} {lv : Nat} {P Q : Nat → Prop} {f g h : Nat → Int} (a : StepR most lv P f g) (b : StepR most lv Q f h) (hPQ : ∀ c, P c ↔ Q c) (y : Nat) : g y = h y := by
  by_cases hy : y / 18446744073709551616 = lv
  · by_cases hp : P y ∧ allF f y ≤ most
    · rw [(a.yes y hy hp.1 hp.2).1, (b.yes y hy ((hPQ y).1 hp.1) hp.2).1]
    · rw [(a.no y hy hp).1, (b.no y hy (fun h => hp ⟨(hPQ y).2 h.1, h.2⟩)).1]
  · by_cases hu : ∃ c, c / 18446744073709551616 = lv ∧ upC c = y
    · obtain ⟨c, hc, rfl⟩ := hu
      by_cases hp : P c ∧ allF f c ≤ most
      · rw [(a.yes c hc hp.1 hp.2).2, (b.yes c hc ((hPQ c).1 hp.1) hp.2).2]
      · rw [(a.no c hc hp).2, (b.no c hc (fun h => hp ⟨(hPQ c).2 h.1, h.2⟩)).2]
    · rw [a.off y hy fun c hc e => hu ⟨c, hc, e⟩, b.off y hy fun c hc e => hu ⟨c, hc, e⟩]
theorem dcnt_lift {L : DL} (hA : DAsc L) (c x : Nat) : dcnt (liftL L c) x = if x = sibC c then 0 else if x = c then 0 else if x = upC c then allC L c else dcnt L x := by
  unfold liftL
  have h1 := dasc_putD hA (upC c) (allC L c)
  rw [dcnt_delD (dasc_delD h1 c), dcnt_delD h1, dcnt_putD hA]
/-- whatever is there ahead of it, a pair counts as it did at the level's start -/
theorem StepR.all {most : Int} {lv : Nat} {us : List UInt64} {f g : Nat → Int} (h : StepR most lv (PU lv us) f g) {c : Nat} (hc : c / 18446744073709551616 = lv) : allF g c = allF f c := by
  have hs : sibC c / 18446744073709551616 = lv := by rw [(sib_lev c).1]; exact hc
  by_cases hp : PU lv us c ∧ allF f c ≤ most
  · have a := h.yes c hc hp.1 hp.2
    have b := h.yes (sibC c) hs (PU.sib.2 hp.1) (by rw [allF_sib]; exact hp.2)
    unfold allF at a ⊢
    rw [a.1, a.2, b.1]
    omega
  · have a := h.no c hc hp
    have b := h.no (sibC c) hs (fun h => hp ⟨PU.sib.1 h.1, by rw [← allF_sib]; exact h.2⟩)
    unfold allF
    rw [a.1, a.2, b.1]
theorem pu_snoc {lv : Nat} {us : List UInt64} {u : UInt64} {c : Nat} : PU lv (us ++ [u]) c ↔ PU lv us c ∨ (cd lv u.toNat = c ∨ cd lv u.toNat = sibC c) := by
  unfold PU
  constructor
  · rintro ⟨v, hv, e⟩
    rcases List.mem_append.1 hv with hv | hv
    · exact .inl ⟨v, hv, e⟩
    · rw [List.mem_singleton] at hv; subst hv; exact .inr e
  · rintro (⟨v, hv, e⟩ | e)
    · exact ⟨v, List.mem_append_left _ hv, e⟩
    · exact ⟨u, List.mem_append_right _ (List.mem_singleton.2 rfl), e⟩
theorem StepR.stay {most : Int} {lv : Nat} {us : List UInt64} {f g : Nat → Int} (h : StepR most lv (PU lv us) f g) {u : UInt64} (hm : most < allF f (cd lv u.toNat)) : StepR most lv (PU lv (us ++ [u])) f g where
  yes c hc hp hf := by
    rcases pu_snoc.1 hp with hp | e | e
    · exact h.yes c hc hp hf
    · subst e; omega
    · rw [← allF_sib, ← e] at hf; omega
  no c hc hn := h.no c hc fun k => hn ⟨pu_snoc.2 (.inl k.1), k.2⟩
  off := h.off
theorem StepR.lift {most : Int} {lv : Nat} {us : List UInt64} {f : Nat → Int} {L : DL} (hA : DAsc L) (h : StepR most lv (PU lv us) f (dcnt L)) {u : UInt64} (hm : allF f (cd lv u.toNat) ≤ most) : StepR most lv (PU lv (us ++ [u])) f (dcnt (liftL L (cd lv u.toNat))) := by
  obtain ⟨c, hce⟩ : ∃ c, cd lv u.toNat = c := ⟨_, rfl⟩
  have hcl : c / 18446744073709551616 = lv := by rw [← hce]; exact low_cd
  have hall : allC L c = allF f c := by rw [allF_dcnt]; exact h.all hcl
  have hul := (up_lev c).1
  rw [hce] at hm ⊢
  refine ⟨fun d hd hp hf => ?_, fun d hd hn => ?_, fun y hy hy2 => ?_⟩
  · have hud := (up_lev d).1
    by_cases e : d = c ∨ d = sibC c
    · have e1 : dcnt (liftL L c) d = 0 := by
        rw [dcnt_lift hA]
        rcases e with rfl | rfl
        · rw [if_neg (fun e => sib_ne _ e.symm), if_pos rfl]
        · rw [if_pos rfl]
      have e2 : upC d = upC c := by
        rcases e with rfl | rfl
        · rfl
        · exact up_sib c
      have e3 : allF f d = allF f c := by
        rcases e with rfl | rfl
        · rfl
        · exact allF_sib f c
      refine ⟨e1, ?_⟩
      rw [e2, e3, dcnt_lift hA, if_neg (up_ne_sib c), if_neg (up_ne c), if_pos rfl]
      exact hall
    · have hp2 : PU lv us d := by
        rcases pu_snoc.1 hp with hp | e' | e'
        · exact hp
        · exact absurd (.inl (e'.symm.trans hce)) e
        · exact absurd (.inr (by rw [← hce, e', sib_sib])) e
      have a := h.yes d hd hp2 hf
      rw [dcnt_lift hA, dcnt_lift hA, if_neg (fun x => e (.inr x)), if_neg (fun x => e (.inl x)), if_neg (fun x => by rw [x] at hd; omega),
        if_neg (fun x => by have := (sib_lev c).1; rw [x] at hud; omega), if_neg (fun x => by rw [x] at hud; omega), if_neg (fun x => e (up_inj (by omega) x))]
      exact a
  · have hud := (up_lev d).1
    have e : ¬ (d = c ∨ d = sibC c) := by
      rintro (rfl | rfl)
      · exact hn ⟨pu_snoc.2 (.inr (.inl hce)), hm⟩
      · exact hn ⟨pu_snoc.2 (.inr (.inr (by rw [sib_sib]; exact hce))), by rw [allF_sib]; exact hm⟩
    have a := h.no d hd fun k => hn ⟨pu_snoc.2 (.inl k.1), k.2⟩
    rw [dcnt_lift hA, dcnt_lift hA, if_neg (fun x => e (.inr x)), if_neg (fun x => e (.inl x)), if_neg (fun x => by rw [x] at hd; omega),
      if_neg (fun x => by have := (sib_lev c).1; rw [x] at hud; omega), if_neg (fun x => by rw [x] at hud; omega), if_neg (fun x => e (up_inj (by omega) x))]
    exact a
  · rw [dcnt_lift hA, if_neg (fun x => by have := (sib_lev c).1; rw [x] at hy; omega), if_neg (fun x => hy (by rw [x]; exact hcl)), if_neg (fun x => hy2 c hcl x.symm)]
    exact h.off y hy hy2
/-- those that stayed -/
def Stay (most : Int) (lv : Nat) (f : Nat → Int) (vs : List UInt64) (L : DL) (st : Nat) : Prop :=
  ∃ Z : List Nat, Z.Nodup ∧ Z.length = st ∧ ∀ z ∈ Z, (∃ q ∈ L, q.1 = z) ∧ (z / 18446744073709551616 < lv ∨ ∃ u ∈ vs, z = cd lv u.toNat ∧ most < allF f z)
theorem codes_len {Z : List Nat} {L : DL} (hZ : Z.Nodup) (h : ∀ z ∈ Z, ∃ q ∈ L, q.1 = z) : Z.length ≤ L.length := by
  have h1 := hZ.length_le_of_subset (l₂ := L.map Prod.fst) (fun z hz => by
    obtain ⟨q, hq, e⟩ := h z hz
    exact List.mem_map.2 ⟨q, hq, e⟩)
  simpa using h1
theorem cd_inj {lv : Nat} {u v : UInt64} (h : cd lv u.toNat = cd lv v.toNat) : u = v := by
  unfold cd at h
  exact UInt64.toNat_inj.1 (by omega)
theorem inner_step {n : Nat} {most : Int} {lv : Nat} (hlv : lv < 64) (f : Nat → Int) : ∀ (us vs : List UInt64) (L : DL) (ch : Bool) (st : Nat), LInv n L → Pend L lv us → (vs ++ us).Nodup → (∀ u ∈ us, 1 ≤ f (cd lv u.toNat)) →
    StepR most lv (PU lv vs) f (dcnt L) → Stay most lv f vs L st → ∀ (L' : DL) (ch' : Bool) (st' : Nat) (b : Bool), innerL most lv us L ch st = (L', ch', st', b) →
    LInv n L' ∧ StepR most lv (PU lv (vs ++ us)) f (dcnt L') ∧ (b = false → Stay most lv f (vs ++ us) L' st') ∧ (b = true → ∀ q ∈ L', q.1 / 18446744073709551616 ≤ lv)
  | [], vs, L, ch, st, hI, _, _, _, hS, hZ, L', ch', st', b, e => by
    cases e
    rw [List.append_nil]
    exact ⟨hI, hS, (fun _ => hZ), (fun e => by cases e)⟩
  | u :: us, vs, L, ch, st, hI, hP, hN, hF, hS, hZ, L', ch', st', b, e => by
    have hP2 : Pend L lv us := fun v hv => hP v (List.mem_cons_of_mem _ hv)
    have hF2 : ∀ v ∈ us, 1 ≤ f (cd lv v.toNat) := fun v hv => hF v (List.mem_cons_of_mem _ hv)
    have happ : vs ++ u :: us = (vs ++ [u]) ++ us := by simp
    have hall : allC L (cd lv u.toNat) = allF f (cd lv u.toNat) := by rw [allF_dcnt]; exact hS.all low_cd
    have huv : u ∉ vs := fun hu => by
      rw [List.nodup_append] at hN
      exact hN.2.2 u hu u (List.mem_cons_self ..) rfl
    rw [happ] at hN ⊢
    unfold innerL at e
    split at e
    · rename_i hle
      refine inner_step hlv f us (vs ++ [u]) _ true st (hI.lift hP hlv (List.mem_cons_self ..)) (pend_step hP2 low_cd) hN hF2 (hS.lift hI.inv.asc (by rw [← hall]; exact hle)) ?_ L' ch' st' b e
      obtain ⟨Z, z1, z2, z3⟩ := hZ
      refine ⟨Z, z1, z2, fun z hz => ?_⟩
      obtain ⟨k1, k2⟩ := z3 z hz
      have hul := (up_lev (cd lv u.toNat)).1
      have hsl := (sib_lev (cd lv u.toNat)).1
      have hcl : cd lv u.toNat / 18446744073709551616 = lv := low_cd
      refine ⟨(lift_has _ _).2 ⟨.inr k1, ?_, ?_⟩, ?_⟩
      · rintro rfl
        rcases k2 with k2 | ⟨_, _, _, k2⟩ <;> omega
      · rintro rfl
        rcases k2 with k2 | ⟨_, _, _, k2⟩
        · omega
        · rw [allF_sib] at k2; omega
      · rcases k2 with k2 | ⟨v, hv, k2⟩
        · exact .inl k2
        · exact .inr ⟨v, List.mem_append_left _ hv, k2⟩
    · rename_i hgt
      have hm : most < allF f (cd lv u.toNat) := by omega
      have hS2 := hS.stay hm
      have hhas : ∃ q ∈ L, q.1 = cd lv u.toNat := Classical.byContradiction fun hn => by
        have h1 := (hS.no (cd lv u.toNat) low_cd (fun k => by omega)).1
        rw [dcnt_none (fun p hp e => hn ⟨p, hp, e⟩)] at h1
        have := hF u (List.mem_cons_self ..)
        omega
      have hZ2 : Stay most lv f (vs ++ [u]) L (st + 1) := by
        obtain ⟨Z, z1, z2, z3⟩ := hZ
        refine ⟨cd lv u.toNat :: Z, List.nodup_cons.2 ⟨fun hz => ?_, z1⟩, by simp [z2], fun z hz => ?_⟩
        · rcases (z3 _ hz).2 with k | ⟨v, hv, k, _⟩
          · rw [low_cd] at k; omega
          · rw [cd_inj k] at huv; exact huv hv
        · rcases List.mem_cons.1 hz with rfl | hz
          · exact ⟨hhas, .inr ⟨u, List.mem_append_right _ (List.mem_singleton.2 rfl), rfl, hm⟩⟩
          · refine ⟨(z3 z hz).1, ?_⟩
            rcases (z3 z hz).2 with k | ⟨v, hv, k⟩
            · exact .inl k
            · exact .inr ⟨v, List.mem_append_left _ hv, k⟩
      split at e
      · rename_i hst
        cases e
        obtain ⟨Z, z1, z2, z3⟩ := hZ2
        have hin : ∀ q ∈ L, q.1 ∈ Z := fun q hq => Classical.byContradiction fun hn => by
          have := codes_len (Z := q.1 :: Z) (L := L) (List.nodup_cons.2 ⟨hn, z1⟩) (fun z hz => by
            rcases List.mem_cons.1 hz with rfl | hz
            · exact ⟨q, hq, rfl⟩
            · exact (z3 z hz).1)
          simp at this
          omega
        have hdone : ∀ c, c / 18446744073709551616 = lv → PU lv ((vs ++ [u]) ++ us) c → allF f c ≤ most → PU lv (vs ++ [u]) c := fun c hc hp hf => Classical.byContradiction fun hn => by
          obtain ⟨v, hv, ev⟩ := hp
          rcases List.mem_append.1 hv with hv | hv
          · exact hn ⟨v, hv, ev⟩
          · have hvl : cd lv v.toNat / 18446744073709551616 = lv := low_cd
            have h1 := (hS2.no (cd lv v.toNat) hvl (fun k => hn (by
              rcases ev with e1 | e1
              · rw [e1] at k; exact k.1
              · rw [e1] at k; exact PU.sib.1 k.1))).1
            have h2 := hF2 v hv
            have h3 : ∃ q ∈ L, q.1 = cd lv v.toNat := Classical.byContradiction fun hn2 => by
              rw [dcnt_none (fun p hp e => hn2 ⟨p, hp, e⟩)] at h1
              omega
            obtain ⟨q, hq, eq⟩ := h3
            rcases (z3 _ (hin q hq)).2 with k | ⟨t, ht, k, _⟩
            · rw [eq, hvl] at k; omega
            · rw [eq] at k
              rw [cd_inj k] at hv
              rw [List.nodup_append] at hN
              exact hN.2.2 t ht t hv rfl
        refine ⟨hI, ⟨fun c hc hp hf => hS2.yes c hc (hdone c hc hp hf) hf, fun c hc hn => hS2.no c hc (fun k => hn ⟨?_, k.2⟩), hS2.off⟩, (fun e => by cases e), fun _ q hq => ?_⟩
        · obtain ⟨v, hv, ev⟩ := k.1
          exact ⟨v, List.mem_append_left _ hv, ev⟩
        · rcases (z3 _ (hin q hq)).2 with k | ⟨t, _, k, _⟩
          · omega
          · rw [k, low_cd]; exact Nat.le_refl _
      · exact inner_step hlv f us (vs ++ [u]) L ch (st + 1) hI hP2 hN hF2 hS2 hZ2 L' ch' st' b e
/-- the prefixes of a level are unlike -/
theorem pre_nodup {L xs : DL} (hA : DAsc L) {lv : Nat} {us : List UInt64} (hx : ∀ p, p ∈ xs ↔ p ∈ L) (hn : xs.Nodup) (hp : us.Perm (preL lv xs)) : us.Nodup := by
  rw [hp.nodup_iff]
  unfold preL List.Nodup
  rw [List.pairwise_map]
  have h1 : (xs.filter fun p => decide (((p.1 / 18446744073709551616 : Nat) : Int) = (lv : Int))).Nodup := List.Pairwise.filter _ hn
  refine h1.imp_of_mem fun {p q} hp hq hne he => hne ?_
  obtain ⟨m1, l1⟩ := List.mem_filter.1 hp
  obtain ⟨m2, l2⟩ := List.mem_filter.1 hq
  have l1 := of_decide_eq_true l1
  have l2 := of_decide_eq_true l2
  have e0 : p.1 % 18446744073709551616 = q.1 % 18446744073709551616 := by
    have := congrArg UInt64.toNat he
    simpa using this
  have e1 : p.1 = q.1 := by omega
  have d1 := dcnt_mem hA (id := p.1) (c := p.2) ((hx p).1 m1)
  have d2 := dcnt_mem hA (id := q.1) (c := q.2) ((hx q).1 m2)
  rw [e1, d2] at d1
  exact Prod.ext e1 d1.symm
theorem pu_level {L xs : DL} {lv : Nat} {us : List UInt64} (hx : ∀ p, p ∈ xs ↔ p ∈ L) (hp : us.Perm (preL lv xs)) (c : Nat) : PU lv us c ↔ ∃ q ∈ L, q.1 / 18446744073709551616 = lv ∧ (q.1 = c ∨ q.1 = sibC c) := by
  constructor
  · rintro ⟨u, hu, e⟩
    obtain ⟨q, hq, eq⟩ := here_start hx hp u hu
    exact ⟨q, hq, by rw [eq, low_cd], by rw [eq]; exact e⟩
  · rintro ⟨q, hq, hl, e⟩
    obtain ⟨u, hu, eu⟩ := level_mem hx hp hq hl
    exact ⟨u, hu, by rw [eu]; exact e⟩
theorem outer_none {most : Int} {lv st : Nat} {L L' : DL} {ch ch' : Bool} (h : OuterL most lv L ch st L' ch') (hL : ∀ q ∈ L, q.1 / 18446744073709551616 < lv) : L' = L := by
  have emp : ∀ {lv : Nat} {L xs : DL} {us : List UInt64}, (∀ q ∈ L, q.1 / 18446744073709551616 < lv) → (∀ p, p ∈ xs ↔ p ∈ L) → us.Perm (preL lv xs) → us = [] := fun {lv L xs us} hL hx hp => by
    cases us with
    | nil => rfl
    | cons u r =>
      obtain ⟨q, hq, e⟩ := here_start hx hp u (List.mem_cons_self ..)
      have := hL q hq
      rw [e, low_cd] at this
      omega
  induction h with
  | top L ch st => rfl
  | stop hl hx hn hp e =>
    rw [emp hL hx hp] at e
    cases e
  | next hl hx hn hp e k ih =>
    rw [emp hL hx hp] at e
    cases e
    exact ih fun q hq => Nat.lt_succ_of_lt (hL q hq)
/-- one level, from its start -/
theorem level_step {n : Nat} {most : Int} {lv st : Nat} {L L' xs : DL} {ch ch' : Bool} {us : List UInt64} {st' : Nat} {b : Bool} (hI : LInv n L) (hl : lv < 64) (hx : ∀ p, p ∈ xs ↔ p ∈ L) (hn : xs.Nodup) (hp : us.Perm (preL lv xs)) (hZ : Stay most lv (dcnt L) [] L st) (e : innerL most lv us L ch st = (L', ch', st', b)) :
    LInv n L' ∧ StepR most lv (PU lv us) (dcnt L) (dcnt L') ∧ (b = false → Stay most (lv + 1) (dcnt L') [] L' st') ∧ (b = true → ∀ q ∈ L', q.1 / 18446744073709551616 ≤ lv) := by
  have h := inner_step hl (dcnt L) us [] L ch st hI (pend_start hI hx hp) (pre_nodup hI.inv.asc hx hn hp) (fun u hu => by
    exact dcnt_has hI.inv.asc hI.inv.pos (here_start hx hp u hu)) (StepR.start most lv _) hZ L' ch' st' b e
  refine ⟨h.1, h.2.1, fun hb => ?_, h.2.2.2⟩
  obtain ⟨Z, z1, z2, z3⟩ := h.2.2.1 hb
  refine ⟨Z, z1, z2, fun z hz => ⟨(z3 z hz).1, .inl ?_⟩⟩
  rcases (z3 z hz).2 with k | ⟨t, _, k, _⟩
  · omega
  · rw [k, low_cd]; exact Nat.lt_succ_self _
theorem same_step {n : Nat} {most : Int} {lv : Nat} {L A B xs ys : DL} {us vs : List UInt64} (hA : LInv n A) (hB : LInv n B) (hx : ∀ p, p ∈ xs ↔ p ∈ L) (hp : us.Perm (preL lv xs)) (hy : ∀ p, p ∈ ys ↔ p ∈ L) (hq : vs.Perm (preL lv ys))
    (a : StepR most lv (PU lv us) (dcnt L) (dcnt A)) (b : StepR most lv (PU lv vs) (dcnt L) (dcnt B)) : A = B :=
  dl_ext hA.inv.asc hB.inv.asc hA.inv.pos hB.inv.pos (a.uniq b fun c => (pu_level hx hp c).trans (pu_level hy hq c).symm)
theorem outer_det {n : Nat} {most : Int} {lv st : Nat} {L A : DL} {ch ca : Bool} (h : OuterL most lv L ch st A ca) : LInv n L → Stay most lv (dcnt L) [] L st → ∀ (ch2 : Bool) (st2 : Nat) (B : DL) (cb : Bool), OuterL most lv L ch2 st2 B cb → Stay most lv (dcnt L) [] L st2 → A = B := by
  induction h with
  | top L ch st =>
    intro _ _ ch2 st2 B cb k _
    cases k with
    | top => rfl
    | stop hl => omega
    | next hl => omega
  | stop hl hx hn hp e =>
    intro hI hZ ch2 st2 B cb k hZ2
    have s1 := level_step hI hl hx hn hp hZ e
    cases k with
    | top => omega
    | stop _ hy hm hq e2 =>
      have s2 := level_step hI hl hy hm hq hZ2 e2
      exact same_step s1.1 s2.1 hx hp hy hq s1.2.1 s2.2.1
    | next _ hy hm hq e2 k2 =>
      have s2 := level_step hI hl hy hm hq hZ2 e2
      have e3 := same_step s1.1 s2.1 hx hp hy hq s1.2.1 s2.2.1
      rw [outer_none k2 (by rw [← e3]; exact fun q hq => Nat.lt_succ_of_le (s1.2.2.2 rfl q hq))]
      exact e3
  | next hl hx hn hp e k1 ih =>
    intro hI hZ ch2 st2 B cb k hZ2
    have s1 := level_step hI hl hx hn hp hZ e
    cases k with
    | top => omega
    | stop _ hy hm hq e2 =>
      have s2 := level_step hI hl hy hm hq hZ2 e2
      have e3 := same_step s1.1 s2.1 hx hp hy hq s1.2.1 s2.2.1
      rw [outer_none k1 (by rw [e3]; exact fun q hq => Nat.lt_succ_of_le (s2.2.2.2 rfl q hq))]
      exact e3
    | next _ hy hm hq e2 k2 =>
      have s2 := level_step hI hl hy hm hq hZ2 e2
      have e3 := same_step s1.1 s2.1 hx hp hy hq s1.2.1 s2.2.1
      subst e3
      exact ih s1.1 (s1.2.2.1 rfl) _ _ _ _ k2 (s2.2.2.1 rfl)
theorem stay_none (most : Int) (f : Nat → Int) (L : DL) : Stay most 0 f [] L 0 := ⟨[], List.nodup_nil, rfl, fun z hz => by cases hz⟩
/-- what fit leaves is one -/
theorem fit_det {n : Nat} {most : Int} {L A : DL} (h : FitL most L A) : LInv n L → ∀ B, FitL most L B → A = B := by
  induction h with
  | last h =>
    intro hI B k
    cases k with
    | last k => exact outer_det h hI (stay_none ..) _ _ _ _ k (stay_none ..)
    | again k _ =>
      exfalso
      have e := outer_det h hI (stay_none ..) _ _ _ _ k (stay_none ..)
      have a := (outer_onto h hI).same rfl
      rcases (outer_onto k hI).less rfl with x | x
      · cases x
      · rw [← e, a.2] at x; omega
  | again h _ ih =>
    intro hI B k
    cases k with
    | last k =>
      exfalso
      have e := outer_det h hI (stay_none ..) _ _ _ _ k (stay_none ..)
      have a := (outer_onto k hI).same rfl
      rcases (outer_onto h hI).less rfl with x | x
      · cases x
      · rw [e, a.2] at x; omega
    | again k k2 =>
      have e := outer_det h hI (stay_none ..) _ _ _ _ k (stay_none ..)
      subst e
      exact ih (outer_onto h hI).inv B k2
end Go.Proofs.Ytahaoodklfmddaa
/- Contract of digest's Bytes. Conditions: a digest that was made. -/
set_option maxRecDepth 100000
namespace Go.Proofs.Ytahaoodklfmddaa
open Go.RowKit Go.Maps Go.Sort Go.Shelf

/-- a node's numbers, and its bytes -/
def nodeW (q : Nat × Int) : List Nat := [q.1 / 18446744073709551616, q.1 % 18446744073709551616, q.2.toNat]
def nodeB (q : Nat × Int) : List UInt8 := (nodeW q).flatMap dig
def nodesB (L : DL) : List UInt8 := L.flatMap nodeB
def bytesD (L : DL) : List UInt8 := dig L.length ++ nodesB L
theorem nodesB_append (A B : DL) : nodesB (A ++ B) = nodesB A ++ nodesB B := by simp [nodesB]
/-- a node's numbers are words -/
def NodeOk (q : Nat × Int) : Prop := LowC q.1 ∧ 1 ≤ q.2 ∧ q.2 ≤ 1125899906842624
theorem nodeW_lt {q : Nat × Int} (h : NodeOk q) : ∀ u ∈ nodeW q, u < 18446744073709551616 := fun u hu => by
  have h1 := h.1.1
  have h2 := h.2
  simp [nodeW] at hu
  omega
theorem nodeB_len {q : Nat × Int} (h : NodeOk q) : (nodeB q).length ≤ 30 := by
  have hd := nodeW_lt h
  have a1 := dig_len10 (hd (q.1 / 18446744073709551616) (by simp [nodeW]))
  have a2 := dig_len10 (hd (q.1 % 18446744073709551616) (by simp [nodeW]))
  have a3 := dig_len10 (hd q.2.toNat (by simp [nodeW]))
  simp only [nodeB, nodeW, List.flatMap_cons, List.flatMap_nil, List.length_append, List.length_nil]
  omega
theorem nodesB_len : ∀ {L : DL}, (∀ q ∈ L, NodeOk q) → (nodesB L).length ≤ 30 * L.length
  | [], _ => by simp [nodesB]
  | p :: r, h => by
    have ih := nodesB_len fun q hq => h q (List.mem_cons_of_mem _ hq)
    have h1 := nodeB_len (h p (List.mem_cons_self ..))
    unfold nodesB at ih ⊢
    rw [List.flatMap_cons, List.length_append, List.length_cons]
    omega
theorem bytesD_len {L : DL} (h : ∀ q ∈ L, NodeOk q) (hl : L.length ≤ 1000) : (bytesD L).length ≤ 30010 := by
  have h1 := nodesB_len h
  have h2 := dig_len10 (u := L.length) (by omega)
  unfold bytesD
  rw [List.length_append]
  omega
/-- bytes of the call's own, beside block g -/
def OwnDB (w : World) (g : Nat) (xs : List UInt8) (v : Value) (w' : World) : Prop :=
  w'.ownsRow w.heap.size 5 1 v xs.length (u8s xs) ∧ (∀ x, v.ownBlock = some x → x ≠ g) ∧ Below w.heap.size w w'
theorem OwnDB.next {w wr w' : World} {g : Nat} {xs : List UInt8} {v : Value} (h : OwnDB w g xs v wr) (hb : Below wr.heap.size wr w') : OwnDB w g xs v w' :=
  ⟨ownsRow_below h.1 hb, h.2.1, h.2.2.trans (hb.mono h.2.2.size)⟩
theorem OwnDB.app {w wr w3 : World} {g : Nat} {xs : List UInt8} {v sv : Value} {ys : List UInt8} (h : OwnDB w g xs v wr) (hg : g < wr.heap.size) (hb : Below wr.heap.size wr w3) (hs : Holds w3 sv (u8s ys)) (hl : xs.length + ys.length ≤ 1000000) :
    ∃ v' w4, Hid (∀ ty, (Builtin.append_ #[56, 56] ty #[v, sv]).run Try.prog w3 = .ok v' w4) ∧ Hid (OwnDB w g (xs ++ ys) v' w4 ∧ w4.heap[g]? = wr.heap[g]? ∧ wr.heap.size ≤ w4.heap.size) := by
  have h3 := h.next hb
  obtain ⟨v', w4, r, o, gr, bl⟩ := app8 h3.1 h3.2.2.size hs (by omega)
  refine ⟨v', w4, Lib.hid r, Lib.hid ⟨⟨o, fun x hx => ?_, h3.2.2.trans (below_grown gr h3.2.2.size (fun x hx => ownsRow_ge h3.1 x hx))⟩, ?_, Nat.le_trans hb.size gr.size⟩⟩
  · rcases bl with e | e
    · exact h.2.1 x (by rw [← e]; exact hx)
    · rw [e] at hx
      have := Option.some.inj hx
      have := hb.size
      omega
  · rw [gr.block g (by have := hb.size; omega) (fun e => h.2.1 g e.symm rfl)]
    exact hb.block g hg
theorem index3 (a b c : Int) (w : World) : (Instr.index 63 (.agg #[.int .u64 a, .int .u64 b, .int .u64 c]) (.int .i64 0)).run Try.prog w = .ok (.int .u64 a) w ∧ (Instr.index 63 (.agg #[.int .u64 a, .int .u64 b, .int .u64 c]) (.int .i64 1)).run Try.prog w = .ok (.int .u64 b) w ∧
    (Instr.index 63 (.agg #[.int .u64 a, .int .u64 b, .int .u64 c]) (.int .i64 2)).run Try.prog w = .ok (.int .u64 c) w := ⟨by kernel_rfl, by kernel_rfl, by kernel_rfl⟩
/-- what Bytes leaves -/
def BytesAtD (w : World) (xs : List UInt8) (e : Ending) (w' : World) : Prop := ∃ v, e = .returned v ∧ w'.ownsRow w.heap.size 5 1 v xs.length (u8s xs) ∧ Below w.heap.size w w'

set_option maxHeartbeats 3200000 in
theorem dbytes_at {T : Tags} {i : Nat} {w : World} {p k b : Nat} {n : Int} {L : DL} (h : DkAt T i w p k n b L) (hk1 : 1 ≤ k) (hl : L.length ≤ 1000) (hN : ∀ q ∈ L, NodeOk q) :
    Calls Try.prog 20 #[.pointer (some ⟨p, 0, none⟩)] w (BytesAtD w (bytesD L)) := by
  obtain ⟨c0, c1, c2, _⟩ := h.cells
  have KM := made_at hk1 c0
  have hlen := h.map.len
  have wl : IntKind.u64.wrap (L.length : Int) = (L.length : Int) := by rw [IntKind.wrap_u64]; omega
  have KPut := Put_any (w := w) (v := .slice none 0 0) (xs := []) (Holds.nil w) L.length (by omega) (by simp)
  have KP := Lib.hid (fun (V : World) (u : Nat) (hu : u < 18446744073709551616) => Put_any (w := V) (v := .slice none 0 0) (xs := []) (Holds.nil V) u hu (by simp))
  have HH := Lib.hid h
  have HN := Lib.hid hN
  have HL := Lib.hid hl
  have HK := Lib.hid hk1
  clear h hN hl hk1 c1
  go_enter Try.func20, Try.ntmps20
  go_wp2_with fail
  refine KM.mono ?_
  rintro e w' ⟨rfl, rfl⟩
  clear KM
  go_wp2_with fail
  refine KPut.mono ?_
  rintro e w1 ⟨v1, rfl, ho1, hb1⟩
  rw [List.nil_append] at ho1
  have h1 := HH.out
  have c3 : w1.cell? ⟨p, 0, none⟩ = some (.int .i64 k) := by rw [hb1.cell (lt_of_cell c0)]; exact c0
  have c5 : w1.cell? ⟨p, 2, none⟩ = some (.map (some b)) := by rw [hb1.cell (lt_of_cell c2)]; exact c2
  have KN := nodes_at c3 HK.out c5 (HH.out.map.of_block (hb1.block b HH.out.map.lt)) (by have := HL.out; omega)
  have HO1 := Lib.hid (And.intro ho1 hb1)
  clear KPut ho1 hb1 h1 c0 c2 c3 c5 hlen wl
  go_wp2_with fail
  refine KN.mono ?_
  rintro e w2 ⟨g, c, rfl, hg, hc, hR, hBel⟩
  have HOB : Hid (OwnDB w g (dig L.length ++ nodesB (L.take 0)) v1 w2) := Lib.hid ⟨by simpa [nodesB] using ownsRow_below HO1.out.1 hBel, fun x hx e => by have := (HO1.out.1.lt x hx).2; omega, HO1.out.2.trans (hBel.mono HO1.out.2.size)⟩
  have HR := Lib.hid (And.intro hR.2 (fun (j : Nat) (y : Nat × Int) (hy : L[j]? = some y) => hR.cell hy))
  clear KN hg hR hBel HO1
  go_wp2_with fail
  go_loopw [3, 21] (fun s3 s21 wr => ∃ (v : Value) (j : Nat), v = s3 ∧ s21 = .int .i64 j ∧ j ≤ L.length ∧ Hid (OwnDB w g (dig L.length ++ nodesB (L.take j)) v wr) ∧ Hid (wr.heap[g]? = w2.heap[g]? ∧ w2.heap.size ≤ wr.heap.size)) (fun _ s _ => L.length - (intOf s).toNat)
  case atStart => exact ⟨v1, 0, rfl, rfl, Nat.zero_le _, HOB, Lib.hid ⟨rfl, Nat.le_refl _⟩⟩
  case round =>
    clear HOB
    obtain ⟨v, j, rfl, rfl, hj, HO, HG⟩ := hrel
    by_cases hlt : j < L.length
    · obtain ⟨y, hy⟩ : ∃ y, L[j]? = some y := ⟨_, List.getElem?_eq_getElem hlt⟩
      obtain ⟨r0, r1, r2⟩ := HR.out.2 j y hy
      have x0 : wr.cell? ⟨g, j * 3, none⟩ = some (.int .i64 ((y.1 / 18446744073709551616 : Nat) : Int)) := by rw [World.cell?_of_block HG.out.1]; exact r0
      have x1 : wr.cell? ⟨g, j * 3 + 1, none⟩ = some (.int .u64 ((y.1 % 18446744073709551616 : Nat) : Int)) := by rw [World.cell?_of_block HG.out.1]; exact r1
      have x2 : wr.cell? ⟨g, j * 3 + 2, none⟩ = some (.int .i64 y.2) := by rw [World.cell?_of_block HG.out.1]; exact r2
      have hok := HN.out y (List.mem_of_getElem? hy)
      have hwl := nodeW_lt hok
      have hnl := nodeB_len hok
      have hnl2 := nodesB_len (L := L.take j) (fun q hq => HN.out q (List.mem_of_mem_take hq))
      have hdl := dig_len10 (u := L.length) (by have := HL.out; omega)
      obtain ⟨lv, hlv⟩ : ∃ lv : Nat, y.1 / 18446744073709551616 = lv := ⟨_, rfl⟩
      obtain ⟨pr, hpr⟩ : ∃ pr : Nat, y.1 % 18446744073709551616 = pr := ⟨_, rfl⟩
      obtain ⟨cn, hcn⟩ : ∃ cn : Nat, y.2.toNat = cn := ⟨_, rfl⟩
      have hy2 : y.2 = (cn : Int) := by have := hok.2.1; omega
      have hnw : nodeW y = [lv, pr, cn] := by unfold nodeW; rw [hlv, hpr, hcn]
      rw [hnw] at hwl
      have hl0 := hwl lv (by simp)
      have hl1 := hwl pr (by simp)
      have hl2 := hwl cn (by simp)
      have hL64 : lv ≤ 64 := by rw [← hlv]; exact hok.1.1
      have wlv : IntKind.u64.wrap (lv : Int) = (lv : Int) := by rw [IntKind.wrap_u64]; omega
      have wcn : IntKind.u64.wrap (cn : Int) = (cn : Int) := by rw [IntKind.wrap_u64]; omega
      rw [hlv] at x0
      rw [hpr] at x1
      rw [hy2] at x2
      have b2 : (j : Int) < (L.length : Int) := Int.ofNat_lt.2 hlt
      have hw66 : IntKind.i64.wrap ((j : Int) + 1) = (j : Int) + 1 := by have := HL.out; rw [IntKind.wrap_i64]; omega
      have HEND : Hid ((dig L.length ++ nodesB (L.take j)) ++ ([lv, pr, cn].take 3).flatMap dig = dig L.length ++ nodesB (L.take (j + 1))) := Lib.hid (by
        obtain ⟨hl3, e3⟩ := List.getElem?_eq_some_iff.1 hy
        rw [List.take_succ_eq_append_getElem hl3, e3, nodesB_append, List.append_assoc]
        simp [nodesB, nodeB, hnw])
      have HLEN : Hid ((dig L.length ++ nodesB (L.take j)).length ≤ 40000) := Lib.hid (by rw [List.length_append]; rw [List.length_take] at hnl2; have := HL.out; omega)
      obtain ⟨acc, hacc⟩ : ∃ acc, dig L.length ++ nodesB (L.take j) = acc := ⟨_, rfl⟩
      rw [hacc] at HEND HLEN HO
      obtain ⟨X, hX⟩ : ∃ X, wr.alloc (.cells #[.int .i64 (lv : Int), .int .u64 (pr : Int), .int .i64 (cn : Int)] 50) = X := ⟨_, rfl⟩
      have hbX : Below wr.heap.size wr X := by rw [← hX]; exact (Below.refl _ wr).alloc (Nat.le_refl _) _
      have HOX : Hid (OwnDB w g (acc ++ ([lv, pr, cn].take 0).flatMap dig) v X ∧ X.heap[g]? = w2.heap[g]? ∧ w2.heap.size ≤ X.heap.size) := Lib.hid ⟨by simpa using HO.out.next hbX, by rw [hbX.block g (Nat.lt_of_lt_of_le HR.out.1 HG.out.2)]; exact HG.out.1, Nat.le_trans HG.out.2 hbX.size⟩
      obtain ⟨G, hG⟩ : ∃ G, wr.heap.size = G := ⟨_, rfl⟩
      have hxX : X.heap[G]? = some (.cells #[.int .i64 (lv : Int), .int .u64 (pr : Int), .int .i64 (cn : Int)] 50 (0, 0)) := by rw [← hX, ← hG]; exact heap_alloc_new _ _
      have f0 : X.cell? ⟨G, 0, none⟩ = some (.int .i64 (lv : Int)) := by rw [cell_of_row _ _ _ _ _ _ hxX]; rfl
      have f1 : X.cell? ⟨G, 1, none⟩ = some (.int .u64 (pr : Int)) := by rw [cell_of_row _ _ _ _ _ _ hxX]; rfl
      have f2 : X.cell? ⟨G, 2, none⟩ = some (.int .i64 (cn : Int)) := by rw [cell_of_row _ _ _ _ _ _ hxX]; rfl
      have HU := Lib.hid (And.intro hl0 (And.intro hl1 hl2))
      clear hy r0 r1 r2 hok hwl hnl hnl2 hdl hlv hpr hcn hy2 hnw hl0 hl1 hl2 hL64 hacc HO HG hbX hxX
      obtain ⟨V, rfl⟩ : ∃ x, x = wr := ⟨_, rfl⟩
      go_wp2_with fail
      go_loopw [3, 34] (fun s3 s34 wq => ∃ (v' : Value) (q : Nat), v' = s3 ∧ s34 = .int .i64 q ∧ q ≤ 3 ∧ Hid (OwnDB w g (acc ++ ([lv, pr, cn].take q).flatMap dig) v' wq ∧ wq.heap[g]? = w2.heap[g]? ∧ w2.heap.size ≤ wq.heap.size)) (fun _ s _ => 3 - (intOf s).toNat)
      case atStart => exact ⟨_, 0, rfl, rfl, by omega, HOX⟩
      case round =>
        clear HOX f0 f1 f2 x0 x1 x2
        obtain ⟨v', q, rfl, rfl, hq, HQ⟩ := hrel
        by_cases hq3 : q < 3
        · obtain ⟨u, hu, hut, hix⟩ : ∃ u : Nat, u < 18446744073709551616 ∧ ([lv, pr, cn].take (q + 1)).flatMap dig = ([lv, pr, cn].take q).flatMap dig ++ dig u ∧ (Instr.index 63 (.agg #[.int .u64 (lv : Int), .int .u64 (pr : Int), .int .u64 (cn : Int)]) (.int .i64 (q : Int))).run Try.prog wr = .ok (.int .u64 (u : Int)) wr := by
            have h3 : q = 0 ∨ q = 1 ∨ q = 2 := by omega
            obtain ⟨i0, i1, i2⟩ := index3 (lv : Int) (pr : Int) (cn : Int) wr
            rcases h3 with rfl | rfl | rfl
            · exact ⟨lv, HU.out.1, by simp, i0⟩
            · exact ⟨pr, HU.out.2.1, by simp, i1⟩
            · exact ⟨cn, HU.out.2.2, by simp, i2⟩
          have KU := KP.out wr u hu
          have hdu := dig_len10 hu
          have hlq : (([lv, pr, cn].take q).flatMap dig).length ≤ 30 := by
            have a1 := dig_len10 HU.out.1
            have a2 := dig_len10 HU.out.2.1
            have h3 : q = 0 ∨ q = 1 ∨ q = 2 := by omega
            rcases h3 with rfl | rfl | rfl
            · simp
            · simp; omega
            · simp; omega
          have HAPP := Lib.hid (fun (w3 : World) (sv : Value) (hb : Below wr.heap.size wr w3) (hs : Holds w3 sv (u8s (dig u))) => HQ.out.1.app (Nat.lt_of_lt_of_le HR.out.1 HQ.out.2.2) hb hs (by rw [List.length_append]; have := HLEN.out; omega))
          have HQ2 := Lib.hid (And.intro HQ.out.2.1 HQ.out.2.2)
          have HUT := Lib.hid hut
          have b3 : (q : Int) < 3 := by omega
          have hq64 : IntKind.i64.wrap ((q : Int) + 1) = (q : Int) + 1 := by rw [IntKind.wrap_i64]; omega
          clear hu hut hdu hlq HQ
          go_wp2_with fail
          refine KU.mono ?_
          rintro e w3 ⟨v2, rfl, ho2, hb3⟩
          rw [List.nil_append] at ho2
          obtain ⟨v4, w4, r, o⟩ := HAPP.out w3 v2 hb3 (Holds.of_row (by rw [u8s_len]; exact ho2))
          have HO4 := Lib.hid o.out
          obtain ⟨a4, c4, hv4, _⟩ := ownsRow_form HO4.out.1.1
          obtain ⟨a2', c2', hv2, _⟩ := ownsRow_form ho2
          obtain ⟨n4, hn4⟩ : ∃ n4, (acc ++ ([lv, pr, cn].take q).flatMap dig ++ dig u).length = n4 := ⟨_, rfl⟩
          obtain ⟨n2, hn2⟩ : ∃ n2, (dig u).length = n2 := ⟨_, rfl⟩
          rw [hn4] at hv4
          rw [hn2] at hv2
          have HN4 : Hid (OwnDB w g (acc ++ ([lv, pr, cn].take (q + 1)).flatMap dig) v4 w4 ∧ w4.heap[g]? = w2.heap[g]? ∧ w2.heap.size ≤ w4.heap.size) := Lib.hid ⟨by rw [HUT.out, ← List.append_assoc]; exact HO4.out.1, HO4.out.2.1.trans HQ2.out.1, Nat.le_trans HQ2.out.2 HO4.out.2.2⟩
          clear hn4 hn2 HO4
          subst hv4 hv2
          clear KU ho2 hb3 HAPP o
          go_wp2_with (at_builtin; refine wpList_append_run rfl _ _ 56 rfl rfl rfl (r.out _) ?_)
          go_roundw
          case rel => exact ⟨_, q + 1, rfl, by go_num, hq3, HN4⟩
          case measure => simp [intOf]; omega
        · obtain rfl : q = 3 := by omega
          have HE : Hid (OwnDB w g (dig L.length ++ nodesB (L.take (j + 1))) v' wr ∧ wr.heap[g]? = w2.heap[g]? ∧ w2.heap.size ≤ wr.heap.size) := Lib.hid (by have := HQ.out; rw [HEND.out] at this; exact this)
          clear HQ HEND HLEN
          go_wp2_with fail
          go_roundw
          case rel => exact ⟨_, j + 1, rfl, by go_num, hlt, Lib.hid HE.out.1, Lib.hid HE.out.2⟩
          case measure => simp [intOf]; omega
    · obtain rfl : j = L.length := by omega
      have HP : Hid (wr.heap.size = wr.heap.size ∧ wr.ownsRow w.heap.size 5 1 v (bytesD L).length (u8s (bytesD L)) ∧ Below w.heap.size w wr) := Lib.hid ⟨rfl, by have := HO.out; rw [List.take_length] at this; exact ⟨this.1, this.2.2⟩⟩
      clear HO HG
      go_wp2_with fail
      go_ret
      exact ⟨_, rfl, HP.out.2⟩
end Go.Proofs.Ytahaoodklfmddaa
