/- Sorting nodes, a node more in a row, a loop over the digest's map. Conditions: none. -/
import Derived.Test.YtahaoodklfmddaaDigCmp
import Derived.Shelf.SlSortCmp.WholeK
set_option maxRecDepth 100000
namespace Go.Proofs.Ytahaoodklfmddaa
open Go.RowKit Go.Maps Go.Sort Go.Shelf

/-- two lists that rise and have the same counters are one -/
theorem dasc_eq : ∀ {L L' : DL}, DAsc L → DAsc L' → (∀ p, p ∈ L ↔ p ∈ L') → L = L'
  | [], [], _, _, _ => rfl
  | [], q :: r, _, _, h => absurd ((h q).2 (List.mem_cons_self ..)) (by simp)
  | p :: r, [], _, _, h => absurd ((h p).1 (List.mem_cons_self ..)) (by simp)
  | p :: r, q :: s, hA, hB, h => by
    have h1 := dasc_head hA
    have h2 := dasc_head hB
    have e : p = q := by
      rcases List.mem_cons.1 ((h p).1 (List.mem_cons_self ..)) with e | e
      · exact e
      · rcases List.mem_cons.1 ((h q).2 (List.mem_cons_self ..)) with e' | e'
        · exact e'.symm
        · have := h2 p e
          have := h1 q e'
          omega
    subst e
    have := dasc_eq (L := r) (L' := s) (dasc_tail hA) (dasc_tail hB) fun x => by
      constructor
      · intro hx
        rcases List.mem_cons.1 ((h x).1 (List.mem_cons_of_mem _ hx)) with e | e
        · subst e; exact absurd (h1 _ hx) (by omega)
        · exact e
      · intro hx
        rcases List.mem_cons.1 ((h x).2 (List.mem_cons_of_mem _ hx)) with e | e
        · subst e; exact absurd (h2 _ hx) (by omega)
        · exact e
    rw [this]

theorem sort_nodes {w : World} {g c : Nat} {xs L : DL} (hR : RowN w g xs) (hA : DAsc L) (hn : xs.Nodup) (hm : ∀ p, p ∈ xs ↔ p ∈ L) (hl : xs.length ≤ 1000000) :
    Calls Try.prog 32 #[.slice (some ⟨g, 0, none⟩) xs.length c, .func (.func 33) #[] #[]] w fun e w' =>
      e = .returned (.tuple #[]) ∧ RowN w' g L ∧ w.grownBy w' (some g) ∧ L.length = xs.length := by
  have eg : ∀ args w, (callFunc 33 args).run Try.prog w = .ok (.enter 33 args) w := enters_of Try.func33 (by kernel_rfl) rfl
  have hC : CmpLays Try.prog 33 #[] encN 3 cfN g 0 xs.toArray.size w := fun m os dk _ x y => by
    have := closNode x y (sortWorldK encN 3 w g 0 m dk os)
    simpa [encN] using this
  have h := AnyQ.slices_SortFunc Try.sortNode 3 Try.isAgg50 Try.sizeOf50 encN encN_len encN_one cfN swo_N 33 #[] g 0 c xs.toArray w eg hC hR.1 hR.2 (by simp; omega)
  have e0 : xs.toArray.size = xs.length := by simp
  rw [e0] at h
  refine h.mono ?_
  rintro e w' ⟨rfl, d', n, os, hp, hs, hw⟩
  have hd : d'.size = xs.length := by rw [hp.1, e0]
  have hperm : d'.toList.Perm xs := by
    have := hp.2.2
    rw [← hd] at this
    simp only [Array.extract_size] at this
    rw [hd] at this
    have e1 : xs.toArray.extract 0 xs.length = xs.toArray := by rw [← e0]; simp
    rw [e1] at this
    exact this
  have hasc : DAsc d'.toList := by
    refine List.pairwise_iff_getElem.2 fun i j hi hj hij => ?_
    have h1 := hs i j (Nat.zero_le _) hij (by simp at hj; omega)
    have e1 : d'[i]! = d'.toList[i] := by rw [getElem!_pos d' i (by simpa using hi)]; simp
    have e2 : d'[j]! = d'.toList[j] := by rw [getElem!_pos d' j (by simpa using hj)]; simp
    rw [e1, e2, lt_N] at h1
    simp at h1
    have hnd : d'.toList.Nodup := hperm.nodup_iff.2 hn
    have hne : d'.toList[i] ≠ d'.toList[j] := fun e => by
      have := (List.nodup_iff_pairwise_ne.1 hnd)
      exact List.pairwise_iff_getElem.1 this i j hi hj hij e
    have m1 : d'.toList[i] ∈ L := (hm _).1 (hperm.mem_iff.1 (List.getElem_mem hi))
    have m2 : d'.toList[j] ∈ L := (hm _).1 (hperm.mem_iff.1 (List.getElem_mem hj))
    rcases Nat.lt_or_eq_of_le h1 with g1 | g1
    · simpa using g1
    · exfalso
      apply hne
      have c1 := dcnt_mem hA (id := (d'.toList[i]).1) (c := (d'.toList[i]).2) m1
      have c2 := dcnt_mem hA (id := (d'.toList[j]).1) (c := (d'.toList[j]).2) m2
      refine Prod.ext (by simpa using g1) ?_
      rw [← c1, ← c2]
      congr 1
  have heq : d'.toList = L := dasc_eq hasc hA fun p => by rw [hperm.mem_iff, hm]
  have hlen : L.length = xs.length := by rw [← heq]; simpa using hd
  have hSW : SWK encN 3 w g 0 L.toArray w' := ⟨n, os, by rw [hw, ← heq]⟩
  obtain ⟨r1, r2⟩ := rowN_of_swk hR hSW hlen
  exact ⟨rfl, r1, r2, hlen⟩

theorem info_node : (Try.prog.info? 50).map (fun i => (i.zero, i.size, i.bytes)) = some (some (.agg #[.int .i64 0, .int .u64 0, .int .i64 0]), 3, 24) := by kernel_rfl
/-- a node more, behind a row of the call's own -/
theorem app_node {w : World} {B : Nat} {v : Value} {xs : DL} (hown : w.ownsRow B 50 3 v xs.length (flatN xs)) (hB : B ≤ w.heap.size) (hv : v ≠ .slice none 0 0) (id : Nat) (a u c : Int)
    (ha : a = ((id / 18446744073709551616 : Nat) : Int)) (hu : u = ((id % 18446744073709551616 : Nat) : Int)) (hl : xs.length ≤ 1000000) :
    ∃ v' w', (∀ ty, (Builtin.append_ #[47, 47] ty #[v, .slice (some ⟨w.heap.size, 0, none⟩) 1 1]).run Try.prog (w.alloc (.cells #[.int .i64 a, .int .u64 u, .int .i64 c] 50)) = .ok v' w') ∧
      w'.ownsRow B 50 3 v' (xs ++ [(id, c)]).length (flatN (xs ++ [(id, c)])) ∧ w.grownBy w' v.ownBlock ∧ v' ≠ .slice none 0 0 := by
  obtain ⟨i, hi, hz0, hz1, hz2⟩ := info_parts info_node
  have hown' : (w.alloc (.cells #[.int .i64 a, .int .u64 u, .int .i64 c] 50)).ownsRow B 50 3 v xs.length (flatN xs) := hown.alloc _
  obtain ⟨v', w', hr, h2, h3, h4⟩ := run_append_own (P := Try.prog) (w := w.alloc (.cells #[.int .i64 a, .int .u64 u, .int .i64 c] 50)) B 47 0 50 i (.agg #[.int .i64 0, .int .u64 0, .int .i64 0]) 3 24 Try.underlying47 hi hz0 hz1 hz2 rfl (by omega) v xs.length (flatN xs) hown'
    ⟨w.heap.size, 0, none⟩ 1 1 [.int .i64 a, .int .u64 u, .int .i64 c] rfl (fun j u' hj => by
      rw [Addr.add_at, Nat.zero_add, cell_of_row _ _ _ _ _ _ (heap_alloc_new w _)]
      simpa using hj) (fun u' hu' => by simp at hu'; rcases hu' with rfl | rfl | rfl <;> rfl) (by unfold maxLen; omega) (by omega) (by simp; omega)
  refine ⟨v', w', fun ty => hr, ?_, (World.grownBy_alloc w _ v.ownBlock).andThen h3 (fun j hj => .inr hj), fun e => hv (h4.1 e).1⟩
  rw [flatN_snoc, List.length_append]
  subst ha hu
  exact h2

/-- what the loop over the map has gathered -/
structure GathP (L xs : DL) (left : Lit → Bool) : Prop where
  nodup : xs.Nodup
  sub : ∀ p ∈ xs, p ∈ L
  rest : ∀ p ∈ L, left (kL p.1) = false → p ∈ xs
  not_ : ∀ p ∈ xs, left (kL p.1) = false
theorem GathP.step {L xs : DL} {left : Lit → Bool} (h : GathP L xs left) (hA : DAsc L) (hI : AllIn L) {x : Nat} {c : Int} (hm : (x, c) ∈ L) (hl : left (kL x) = true) : GathP L (xs ++ [(x, c)]) (fun z => left z && !z.sameKey (kL x)) where
  nodup := by
    refine List.nodup_append.2 ⟨h.nodup, by simp, fun a ha b hb => ?_⟩
    simp at hb
    subst hb
    rintro rfl
    have := h.not_ _ ha
    rw [hl] at this; cases this
  sub := fun p hp => by
    rcases List.mem_append.1 hp with hp | hp
    · exact h.sub p hp
    · simp at hp; subst hp; exact hm
  rest := fun p hp hl' => by
    simp only [kL_same (hI p hp) (hI _ hm)] at hl'
    by_cases e : p.1 = x
    · have : p = (x, c) := Prod.ext e (by have h1 := dcnt_mem hA (id := p.1) (c := p.2) hp; have h2 := dcnt_mem hA hm; rw [e, h2] at h1; exact h1.symm)
      subst this; simp
    · simp [e] at hl'
      exact List.mem_append_left _ (h.rest p hp hl')
  not_ := fun p hp => by
    rcases List.mem_append.1 hp with hp | hp
    · simp [h.not_ p hp]
    · simp at hp; subst hp; simp [kL_same (hI _ hm) (hI _ hm)]
theorem has_mapP {L : DL} (hI : AllIn L) {p : Nat × Int} (hp : p ∈ L) : has (mapP L) (kL p.1) = true := by
  show (L.map dent).any (fun q => q.1.sameKey (kL p.1)) = true
  exact List.any_eq_true.2 ⟨dent p, List.mem_map.2 ⟨p, hp, rfl⟩, by show (kL p.1).sameKey (kL p.1) = true; rw [kL_same (hI p hp) (hI p hp)]; simp⟩
theorem GathP.start {L : DL} (hI : AllIn L) : GathP L [] (has (mapP L)) := ⟨List.nodup_nil, (fun p hp => by cases hp), (fun p hp hl => by
  rw [has_mapP hI hp] at hl; cases hl), (fun p hp => by cases hp)⟩
theorem nodup_len {α : Type} [DecidableEq α] : ∀ (xs L : List α), xs.Nodup → (∀ p ∈ xs, p ∈ L) → xs.length ≤ L.length
  | [], _, _, _ => Nat.zero_le _
  | x :: r, L, hn, hs => by
    have hx := hs x (List.mem_cons_self ..)
    have hn' := List.nodup_cons.1 hn
    have := nodup_len r (L.erase x) hn'.2 fun p hp => (List.mem_erase_of_ne (fun e => by subst e; exact hn'.1 hp)).2 (hs p (List.mem_cons_of_mem _ hp))
    rw [List.length_erase_of_mem hx] at this
    have := List.length_pos_of_mem hx
    rw [List.length_cons]; omega
theorem GathP.end {L xs : DL} {left : Lit → Bool} (h : GathP L xs left) (hl : ∀ kl, left kl = false) : ∀ p, p ∈ xs ↔ p ∈ L := fun p => ⟨h.sub p, fun hp => h.rest p hp (hl _)⟩
theorem GathP.len {L xs : DL} {left : Lit → Bool} (h : GathP L xs left) : xs.length ≤ L.length := nodup_len xs L h.nodup h.sub


section
variable {w : World} {ops : Array Oper} {rest : List Oper} {o : Oper} {a : Act} {Q : Exit → Act → World → Prop}
/-- one more of the map's places comes -/
theorem wpList_next_places {L : DL} (hI : AllIn L) (hg : o.guard = none) (it : Operand) (hop : o.op = Op.next it false) (b r n : Nat) (left : Lit → Bool) (cnt : Nat)
    (hit : a.eval it = .pointer (some ⟨r, 0, none⟩)) (h : w.ranges Try.prog 67 (plainElem Try.prog 3) b r n (mapP L) left cnt)
    (hDone : cnt = 0 → (∀ kl, left kl = false) → wpList Try.prog ops Q rest (a.put o.dst (.tuple #[.bool false])) w)
    (hMore : ∀ (id : Nat) (c : Int) (w' : World) (cnt' : Nat), (id, c) ∈ L → left (kL id) = true → w'.ranges Try.prog 67 (plainElem Try.prog 3) b r n (mapP L) (fun z => left z && !z.sameKey (kL id)) cnt' → cnt' < cnt →
      w.grownBy w' (some r) → w'.heap.size = w.heap.size → (Instr.entry (.pointer (some ⟨r, 0, none⟩))).run Try.prog w' = .ok (.tuple #[kV id, .int .i64 c]) w' → wpList Try.prog ops Q rest (a.put o.dst (.tuple #[.bool true, kV id, .int .i64 c])) w') :
    wpList Try.prog ops Q (o :: rest) a w := by
  refine wpList_next_ranges w hg it hop 67 KP (plainElem Try.prog 3) (fun v : Value => v) (Value.int .i64) (fun key kl _ => ⟨key, rfl⟩) (fun v y hv => by obtain ⟨c, rfl, _⟩ := plainElem_int_inv Try.underlying3 hv; exact ⟨c, rfl⟩)
    b r n (mapP L) left cnt hit h hDone ?_
  intro x c kl y w' cnt' hkey hlk hv hat hrg hlt hgr hsz hen
  obtain ⟨c', ec, hy, _⟩ := plainElem_int_inv Try.underlying3 hv
  cases ec
  obtain ⟨p, hp, ep, e2⟩ : ∃ p ∈ L, kL p.1 = kl ∧ y.1 = .lit (.int .i64 p.2) := by
    have h1 := hat .nil
    unfold mapP DataW.atKey at h1
    simp only at h1
    obtain ⟨bs, rfl⟩ := KLaw.str hkey
    cases hf : (L.map dent).find? (fun p => p.1.sameKey (.string bs)) with
    | none =>
      rw [hf] at h1
      rw [hy] at h1
      simp at h1
    | some q =>
      rw [hf] at h1
      have g1 := List.find?_some hf
      obtain ⟨p, hp, rfl⟩ := List.mem_map.1 (List.mem_of_find?_eq_some hf)
      refine ⟨p, hp, ?_, by simpa [dent] using h1.symm⟩
      have g2 : (plB (pk p.1) == bs) = true := g1
      show Lit.string (plB (pk p.1)) = _
      rw [eq_of_beq g2]
  have ex : x = kV p.1 := KP.inj hkey (by rw [← ep]; exact kV_key (hI p hp))
  have ec : c = p.2 := by
    rw [hy] at e2
    simpa using e2
  subst ep ex ec
  exact hMore p.1 p.2 w' cnt' hp hlk hrg hlt hgr hsz hen
end
end Go.Proofs.Ytahaoodklfmddaa
