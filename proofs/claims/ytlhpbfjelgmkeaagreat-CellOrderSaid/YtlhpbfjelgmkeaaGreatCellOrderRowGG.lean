/- The texts CelE CelF CelG CelH, one behind the other; each one's own comment says what it holds. -/
import Derived.Test.YtlhpbfjelgmkeaaGreatCellOrderRowGF
/- A cell in memory: rows as things, a copy of kinds, the cell's parts. Conditions: none. -/
set_option maxRecDepth 100000
namespace Go.Proofs.YtlhpbfjelgmkeaaGreat
open Go.RowKit Go.Maps Go.Sort Go.Lib

/-- a copy of numbers -/
def ICloneOf (w : World) (l : List Int) (e : Ending) (w' : World) : Prop := ∃ v, e = .returned v ∧ w'.ownsRow w.heap.size 3 1 v l.length (i64s l) ∧ Below w.heap.size w w'

set_option maxHeartbeats 800000 in
theorem clone_ints {w : World} {a : Option Addr} {n c : Nat} {l : List Int} (h : Holds w (.slice a n c) (i64s l)) (hl : l.length ≤ 1000000) :
    Calls Tryz.prog 31 #[.slice a n c] w (ICloneOf w l) := by
  cases a with
  | none =>
    have hn : l = [] := by
      obtain ⟨_, _, e, _, h3 | ⟨_, h3, _⟩⟩ := h
      · have := congrArg List.length h3.2.1
        rw [i64s_len] at this
        exact List.eq_nil_of_length_eq_zero this
      · cases e; cases h3
    subst hn
    have hn0 : n = 0 := by have := h.len.1; simpa [i64s] using this.symm
    have hc0 : c = 0 := by
      obtain ⟨_, _, e, _, h3 | ⟨_, h3, _⟩⟩ := h
      · cases e; exact h3.2.2
      · cases e; cases h3
    subst hn0 hc0
    have HP : Hid (ICloneOf w [] (.returned (.slice none 0 0)) w) := Lib.hid ⟨_, rfl, World.ownsRow_nil _ _ _ _, Below.refl _ _⟩
    have hnil := fun W => Lib.run_eql_slice_nil (P := Tryz.prog) W 27 3 none 0 0 0 0 Tryz.underlying27
    clear h hl
    go_enter Tryz.func31, Tryz.ntmps31
    go_wp2_with fail
    go_ret
    exact HP.out
  | some ad =>
    have hb1 := (Below.refl w.heap.size w).alloc (Nat.le_refl _) (.cells #[] 3)
    have hr1 := World.ownsRow_made w (base := w.heap.size) (e := 3) (size := 1) #[] 0 (Nat.le_refl _) (by unfold maxLen; omega) (by simp)
    obtain ⟨v2, w2, r, o, g, b⟩ := app_any (P := Tryz.prog) (xs := []) Tryz.underlying27 info64 (by omega) rfl hr1 hb1.size (h.below hb1) (i64s_one l) (by rw [i64s_len]; simp; omega)
    have R := Lib.hid r
    have HP : Hid (ICloneOf w l (.returned v2) w2) := Lib.hid ⟨_, rfl, by simpa [i64s_len] using o, hb1.trans (below_grown g hb1.size (fun k e => by simp [Value.ownBlock] at e; omega))⟩
    have hnil := fun W => Lib.run_eql_slice_nil (P := Tryz.prog) W 27 3 (some ad) n c 0 0 Tryz.underlying27
    clear h r o g b hb1 hr1 hl
    go_enter Tryz.func31, Tryz.ntmps31
    go_wp2_with (at_builtin; refine wpList_append_run rfl _ _ 27 rfl rfl rfl (R.out _) ?_)
    go_ret
    exact HP.out


/-- a row of one's own -/
def RowT (e k : Nat) (v : Value) (n : Nat) (xs : List Value) : Thing := fun T i w => w.ownsRow 0 e k v n xs ∧ ∀ g, v.ownBlock = some g → T g = some i
theorem RowT.framed (e k : Nat) (v : Value) (n : Nat) (xs : List Value) : Framed (RowT e k v n xs) := fun _ _ _ _ _ h hT hw =>
  ⟨ownsRow_of_block h.1 (fun g hg => hw g (h.1.lt g hg).2 (.inr (h.2 g hg))), fun g hg => (hT g (h.1.lt g hg).2).trans (h.2 g hg)⟩
/-- seeds that nobody changes -/
def SeedT (g : Nat) (S : List (Nat × Nat)) : Thing := fun T _ w => T g = none ∧ g < w.heap.size ∧ SeedsIn w ⟨g, 0, none⟩ S
theorem SeedT.framed (g : Nat) (S : List (Nat × Nat)) : Framed (SeedT g S) := fun _ _ _ _ w' h hT hw => by
  have h1 := hw g h.2.1 (.inl h.1)
  have h2 : g < w'.heap.size := by
    rw [Array.getElem?_eq_getElem h.2.1] at h1
    exact (Array.getElem?_eq_some_iff.1 h1).1
  exact ⟨(hT g h.2.1).trans h.1, h2, h.2.2.keep (hw g h.2.1 (.inl h.1))⟩
section
variable {w0 w : World} {E : List (Nat × Thing)} {i j : Nat} {A : Thing} {e k : Nat} {v : Value} {n : Nat} {xs : List Value}
theorem side_row (h : Side w0 E w) (i : Nat) {w' : World} (ho : w'.ownsRow w.heap.size e k v n xs) (hb : Below w.heap.size w w') : Side w0 ((i, RowT e k v n xs) :: E) w' := by
  obtain ⟨T, h⟩ := h
  refine Side.add h (T.one_next w (some i)) hb (RowT.framed _ _ _ _ _) ⟨ownsRow_rebase3 ho (fun _ _ => Nat.zero_le _), fun g hg => ?_⟩
  have := (ho.lt g hg).1
  unfold Tags.one
  rw [if_neg (by omega)]
theorem side_nil (h : Side w0 E w) (i e k : Nat) : Side w0 ((i, RowT e k (.slice none 0 0) 0 []) :: E) w := by
  obtain ⟨T, h⟩ := h
  exact Side.add h (fun _ _ => rfl) (Below.refl _ _) (RowT.framed _ _ _ _ _) ⟨World.ownsRow_nil _ _ _ _, fun g hg => by simp [Value.ownBlock] at hg⟩
theorem side_seed (h : Side w0 E w) (i : Nat) {w' : World} {g : Nat} {S : List (Nat × Nat)} (hg : w.heap.size ≤ g) (hg2 : g < w'.heap.size) (hs : SeedsIn w' ⟨g, 0, none⟩ S) (hb : Below w.heap.size w w') : Side w0 ((i, SeedT g S) :: E) w' := by
  obtain ⟨T, h⟩ := h
  refine Side.add h (T.one_next w none) hb (SeedT.framed _ _) ⟨?_, hg2, hs⟩
  unfold Tags.one
  rw [if_neg (by omega)]
/-- an element more behind a row -/
theorem side_push {t : Nat} {z : Value} {by' : Nat} (ht : Tryz.prog.underlying t = some (.slice e)) (hinfo : (Tryz.prog.info? e).map (fun i => (i.zero, i.size, i.bytes)) = some (some z, k, by')) (hzs : z.cells.size = k) (hk : 0 < k)
    (h : Side w0 ((i, RowT e k v n xs) :: E) w) (hi : ∀ x ∈ E, x.1 ≠ i) (news : List Value) (hl : news.length = k) (h1 : ∀ u ∈ news, u.oneCell' = true) (hbytes : (n + 1) * by' ≤ 140737488355328) (hn : n ≤ 1000000) :
    ∃ v' X, Hid (∀ ty, (Builtin.append_ #[t, t] ty #[v, .slice (some ⟨w.heap.size, 0, none⟩) 1 1]).run Tryz.prog (w.alloc (.cells news.toArray e)) = .ok v' X) ∧ Hid (Side w0 ((i, RowT e k v' (n + 1) (xs ++ news)) :: E) X) := by
  obtain ⟨T, h⟩ := h
  obtain ⟨_, h2⟩ := h.at_ _ (List.mem_cons_self ..)
  obtain ⟨v', X, hr, ho, hg, hv⟩ := push_row ht hinfo hzs hk h2.1 (Nat.zero_le _) news hl h1 hbytes (by omega)
  refine ⟨v', X, Lib.hid hr, ?_⟩
  have hs : SideT w0 T E w := ⟨h.base, h.old, fun e he => h.at_ e (List.mem_cons_of_mem _ he)⟩
  have he : Else (fun k => T k = some i) w X := (Else.of_grown hg).mono (fun x hx => h2.2 x hx)
  have hs' := hs.next (T.one_next w (some i)) he hi
  refine ⟨T.one w.heap.size (some i), hs'.base, hs'.old, fun q hq => ?_⟩
  rcases List.mem_cons.1 hq with rfl | hq
  · refine ⟨RowT.framed _ _ _ _ _, ho, fun g hg => ?_⟩
    rcases hv with hv | hv
    · rw [hv] at hg
      unfold Tags.one
      rw [if_pos (h2.1.lt g hg).2]
      exact h2.2 g hg
    · rw [hv] at hg
      have : g = w.heap.size + 1 := (Option.some.inj hg).symm
      unfold Tags.one
      rw [if_neg (by omega)]
  · exact hs'.at_ q hq
end
theorem infoMea : (Tryz.prog.info? 25).map (fun i => (i.zero, i.size, i.bytes)) = some (some (.agg #[.int .i64 0, .string ⟨#[]⟩]), 2, 24) := by kernel_rfl
theorem infoSta : (Tryz.prog.info? 97).map (fun i => (i.zero, i.size, i.bytes)) = some (some .nilIface, 1, 16) := by kernel_rfl
/-- a cell, plain -/
structure Cv where
  ms : List (Int × ByteArray)
  ks : List Int
  t : Nat
  S : List (Nat × Nat)
  K : Int
  M : Int
  rows : Nat
  st : List (Nat × Sv)
/-- where its parts lie -/
structure Lay where
  mv : Value
  kv : Value
  g : Nat
  c : Nat
  sv : Value
def vals (st : List (Nat × Sv)) : List Value := st.map fun s => Sv.val s.1 s.2
def celO (L : Lay) (C : Cv) : Obj := .cells #[L.mv, L.kv, .int .i64 (C.t : Int), .slice (some ⟨L.g, 0, none⟩) C.S.length L.c, .int .i64 C.K, .int .i64 C.M, .int .i64 (C.rows : Int), L.sv] 92 (0, 0)
def stE : Nat → List (Nat × Sv) → List (Nat × Thing)
  | _, [] => []
  | j, s :: r => (j, StT s.1 s.2) :: stE (j + 1) r
/-- the things that a cell is -/
def cellE (i q : Nat) (L : Lay) (C : Cv) : List (Nat × Thing) :=
  (i, OBox q (celO L C)) :: (i + 1, RowT 25 2 L.mv C.ms.length (fl2 (C.ms.map meaC))) :: (i + 2, RowT 97 1 L.sv C.st.length (vals C.st)) :: (i + 3, RowT 3 1 L.kv C.ks.length (i64s C.ks)) :: (i + 4, SeedT L.g C.S) :: stE (i + 5) C.st
theorem stE_mem : ∀ (j : Nat) (st : List (Nat × Sv)) (x : Nat × Thing), x ∈ stE j st → j ≤ x.1 ∧ x.1 < j + st.length
  | _, [], x, h => by cases h
  | j, s :: r, x, h => by
    rcases List.mem_cons.1 h with rfl | h
    · exact ⟨Nat.le_refl _, by simp⟩
    · have := stE_mem (j + 1) r x h
      simp only [List.length_cons]
      omega
theorem stE_snoc : ∀ (j : Nat) (st : List (Nat × Sv)) (s : Nat × Sv), stE j (st ++ [s]) = stE j st ++ [(j + st.length, StT s.1 s.2)]
  | j, [], s => by simp [stE]
  | j, a :: r, s => by
    rw [List.cons_append, stE, stE_snoc (j + 1) r s, stE]
    simp only [List.length_cons, List.cons_append]
    rw [show j + 1 + r.length = j + (r.length + 1) by omega]
theorem stE_at : ∀ (j : Nat) (st : List (Nat × Sv)) (m : Nat) (s : Nat × Sv), st[m]? = some s → (j + m, StT s.1 s.2) ∈ stE j st
  | _, [], m, s, h => by simp at h
  | j, a :: r, 0, s, h => by
    simp only [List.getElem?_cons_zero, Option.some.injEq] at h
    subst h
    exact List.mem_cons_self ..
  | j, a :: r, m + 1, s, h => by
    simp only [List.getElem?_cons_succ] at h
    have := stE_at (j + 1) r m s h
    rw [show j + 1 + m = j + (m + 1) by omega] at this
    exact List.mem_cons_of_mem _ this
end Go.Proofs.YtlhpbfjelgmkeaaGreat
/- New of measures of kinds 1 to 5. Conditions: as many kinds as measures, at most 16, each may be; good settings; short names. -/
set_option maxRecDepth 100000
namespace Go.Proofs.YtlhpbfjelgmkeaaGreat
open Go.RowKit Go.Maps Go.Sort Go.Lib

/-- how far New is -/
structure NewC (ms : List (Int × ByteArray)) (ks : List Int) (t : Nat) (S : List (Nat × Nat)) (K M : Int) (k : Nat) (C : Cv) : Prop where
  ems : C.ms = ms.take k
  eks : C.ks = ks
  et : C.t = t
  eS : C.S = S
  eK : C.K = K
  eM : C.M = M
  erows : C.rows = 0
  elen : C.st.length = k
  est : ∀ (j : Nat) m s, ms[j]? = some m → C.st[j]? = some s → Begun t S m.1 s.2
def tagsOff (i : Nat) (E : List (Nat × Thing)) : Prop := ∀ e ∈ E, e.1 < i ∨ i + 100 ≤ e.1
theorem cell_tags {i q : Nat} {L : Lay} {C : Cv} (hl : C.st.length ≤ 16) : ∀ e ∈ cellE i q L C, i ≤ e.1 ∧ e.1 < i + 21 := fun e he => by
  unfold cellE at he
  rcases List.mem_cons.1 he with rfl | he
  · exact ⟨Nat.le_refl _, by omega⟩
  rcases List.mem_cons.1 he with rfl | he
  · exact ⟨by simp, by simp⟩
  rcases List.mem_cons.1 he with rfl | he
  · exact ⟨by simp, by simp⟩
  rcases List.mem_cons.1 he with rfl | he
  · exact ⟨by simp, by simp⟩
  rcases List.mem_cons.1 he with rfl | he
  · exact ⟨by simp, by simp⟩
  have := stE_mem _ _ _ he
  omega
def NewP (w0 : World) (E : List (Nat × Thing)) (i : Nat) (ms : List (Int × ByteArray)) (ks : List Int) (t : Nat) (S : List (Nat × Nat)) (K M : Int) (e : Ending) (w' : World) : Prop :=
  ∃ q L C, e = .returned (.pointer (some ⟨q, 0, none⟩)) ∧ NewC ms ks t S K M ms.length C ∧ Hid (Side w0 (cellE i q L C ++ E) w')
theorem set_cells {W : World} {b : Nat} {t K M : Int} {sa : Option Addr} {n c : Nat} (h : W.heap[b]? = some (setO t sa n c K M)) :
    W.cell? ⟨b, 0, none⟩ = some (.int .i64 t) ∧ W.cell? ⟨b, 1, none⟩ = some (.slice sa n c) ∧ W.cell? ⟨b, 2, none⟩ = some (.int .i64 K) ∧ W.cell? ⟨b, 3, none⟩ = some (.int .i64 M) :=
  ⟨by rw [cell_of_row _ _ _ _ _ _ h]; rfl, by rw [cell_of_row _ _ _ _ _ _ h]; rfl, by rw [cell_of_row _ _ _ _ _ _ h]; rfl, by rw [cell_of_row _ _ _ _ _ _ h]; rfl⟩
set_option maxHeartbeats 12800000 in
theorem cnew_any {w0 w : World} {E : List (Nat × Thing)} (h : Side w0 E w) (i : Nat) (hE : tagsOff i E) {a1 a2 sa : Option Addr} {n1 n2 ns c1 c2 sc : Nat} {ms : List (Int × ByteArray)} {ks : List Int} {S : List (Nat × Nat)}
    (HL : ∀ W, Side w0 E W → Holds2 W (.slice a1 n1 c1) (ms.map meaC)) (HK : ∀ W, Side w0 E W → Holds W (.slice a2 n2 c2) (i64s ks)) (HSet : ∀ W, Side w0 E W → SetAt W sa ns sc S) (t : Nat) (K M : Int) (hg : goodB t S K M = true)
    (hlen : ks.length = ms.length) (h16 : ms.length ≤ 16) (hok : ∀ (j : Nat) m k, ms[j]? = some m → ks[j]? = some k → okM m.1 k ∧ m.2.size ≤ 1000000) :
    Calls Tryz.prog 9 #[.slice a1 n1 c1, .slice a2 n2 c2, setV t sa ns sc K M] w (NewP w0 E i ms ks t S K M) := by
  obtain ⟨aS, cS, hvS, hcS⟩ := (HL w h).form
  have hn1 := (Value.slice.inj hvS).2.1
  rw [List.length_map] at hn1
  have hn2 : n2 = ks.length := by have := (HK w h).len.1; rw [i64s_len] at this; exact this.symm
  have hns : S.length = ns := (HSet w h).len
  have hgS : GoodS t S := by
    obtain ⟨tn, htn, hgS⟩ := goodB_set hg
    have : t = tn := by omega
    rw [this]
    exact hgS
  obtain ⟨sad, rfl, _⟩ := (HSet w h).at_ (by have := hgS.n1; omega)
  clear hvS hcS
  rw [hlen] at hn2
  obtain ⟨N, hN⟩ : ∃ N, ms.length = N := ⟨_, rfl⟩
  rw [hN] at hn1 hn2 hlen h16
  subst hn1 hn2
  obtain ⟨P, hP⟩ : ∃ P, NewP w0 E i ms ks t S K M = P := ⟨_, rfl⟩
  have hb := below_c w (setO t (some sad) ns sc K M)
  have S1 := (h.alloc (i + 90) (setO t (some sad) ns sc K M))
  have KG := kgood_any (HSet _ (h.below hb)) (t : Int) K M
  rw [hg] at KG
  rw [hP]
  have t2 : decide ((16 : Int) < (n2 : Int)) = false := decide_eq_false (by omega)
  unfold setV
  have HS1 := Lib.hid S1
  replace HL := Lib.hid HL
  replace HK := Lib.hid HK
  replace HSet := Lib.hid HSet
  have HG := Lib.hid hg
  have HGS := Lib.hid hgS
  have HOK := Lib.hid hok
  have HE := Lib.hid hE
  have HP := Lib.hid hP
  have HN := Lib.hid hN
  have HLEN := Lib.hid hlen
  have H16 := Lib.hid h16
  have HNS := Lib.hid hns
  have HB := Lib.hid hb
  clear hb S1 h hg hgS hok hE hP hN hlen hns
  unfold setO at KG
  go_enter Tryz.func9, Tryz.ntmps9
  go_wp2_with fail
  refine KG.mono ?_
  rintro e w2 ⟨rfl, hb2⟩
  have S2 := Lib.hid ((HS1.out.below hb2).drew)
  have C2 := set_cells (S2.out.heap (i := i + 90) (List.mem_cons_self ..))
  have KC := clone_ints (HK.out _ (S2.out.sub fun x hx => List.mem_cons_of_mem _ hx)) (by rw [HLEN.out]; omega)
  clear KG hb2 HS1
  go_upto_region 3 with (fail)
  refine wp_region_mix (fun W => W.cell? ⟨w.heap.size, 0, none⟩ = some (.int .i64 (t : Int)) ∧ W.cell? ⟨w.heap.size, 1, none⟩ = some (.slice (some sad) ns sc) ∧ W.cell? ⟨w.heap.size, 2, none⟩ = some (.int .i64 K) ∧ W.cell? ⟨w.heap.size, 3, none⟩ = some (.int .i64 M)) 6 [(true, 0), (true, 2), (false, 1), (true, 3), (false, 4), (true, 5)] (by kernel_rfl) (by decide +kernel) rfl (by decide +kernel) C2 ?_
  iterate 2
    refine wpMix_take (v := ?_) rfl rfl ?_ ?_
    rotate_left
    · (intro W hW; (try dsimp only at hW); go_simp) <;> with_reducible rfl
    simp only [Act.put, List.setIfInBounds_toArray, List.set_cons_zero, List.set_cons_succ]
  refine wpMix_run rfl ?_
  intro K' hK'
  go_wp2_with fail
  refine KC.mono ?_
  rintro e w3 ⟨kv, rfl, hro, hb3⟩
  have S3 := Lib.hid (side_row S2.out (i + 3) hro hb3)
  obtain ⟨ka, kc, hkv, _⟩ := ownsRow_form hro
  rw [HLEN.out] at hkv
  subst hkv
  have C3 := set_cells (S3.out.heap (i := i + 90) (List.mem_cons_of_mem _ (List.mem_cons_self ..)))
  clear KC hro hb3 C2 S2
  go_wp2_with fail
  refine hK'.out _ _ (fun _ => C3) ?_
  clear hK' K'
  iterate 1
    refine wpMix_take (v := ?_) rfl rfl ?_ ?_
    rotate_left
    · (intro W hW; (try dsimp only at hW); go_simp) <;> with_reducible rfl
    simp only [Act.put, List.setIfInBounds_toArray, List.set_cons_zero, List.set_cons_succ]
  refine wpMix_run rfl ?_
  intro K' hK'
  go_wp2_with fail
  have S4 := Lib.hid (S3.out.own i (.cells #[.slice none 0 0, .slice ka n2 kc, .int .i64 (t : Int), .slice (some sad) ns sc, .int .i64 K, .int .i64 M, .int .i64 0, .slice none 0 0] 92))
  have C4 := set_cells (S4.out.heap (i := i + 90) (List.mem_cons_of_mem _ (List.mem_cons_of_mem _ (List.mem_cons_self ..))))
  clear S3 C3
  refine hK'.out _ _ (fun _ => C4) ?_
  clear hK' K'
  iterate 1
    refine wpMix_take (v := ?_) rfl rfl ?_ ?_
    rotate_left
    · (intro W hW; (try dsimp only at hW); go_simp) <;> with_reducible rfl
    simp only [Act.put, List.setIfInBounds_toArray, List.set_cons_zero, List.set_cons_succ]
  refine wpMix_nil ?_
  obtain ⟨q, hq⟩ : ∃ q, w3.heap.size = q := ⟨_, rfl⟩
  obtain ⟨w4, hw4⟩ : ∃ w4, w3.alloc (.cells #[.slice none 0 0, .slice ka n2 kc, .int .i64 (t : Int), .slice (some sad) ns sc, .int .i64 K, .int .i64 M, .int .i64 0, .slice none 0 0] 92) = w4 := ⟨_, rfl⟩
  rw [hw4] at S4 C4 ⊢
  rw [hq] at S4 ⊢
  have hsd : SeedsIn w4 sad S := by
    obtain ⟨ad, e1, e2⟩ := (HSet.out w4 (S4.out.sub fun x hx => List.mem_cons_of_mem _ (List.mem_cons_of_mem _ (List.mem_cons_of_mem _ hx)))).at_ (by rw [← HNS.out]; have := HGS.out.n1; omega)
    cases e1
    exact e2
  have KS := clone_seeds (c := sc) hsd HGS.out.n1 (by have := HGS.out.n7; omega)
  rw [HNS.out] at KS
  clear hsd hw4 hq
  go_wp2_with fail
  refine KS.mono ?_
  rintro e w5 ⟨g, gc, rfl, hg1, hg2, hg3, hg4, hg5, hb5⟩
  rw [HNS.out]
  have S5 := side_seed S4.out (i + 4) hg1 hg2 hg5 hb5
  have hq5 := S5.heapO (i := i) (List.mem_cons_of_mem _ (List.mem_cons_self ..))
  have f3 := free_of_row hq5 3
  have c3 : w5.cell? ⟨q, 3, none⟩ = some (.slice (some sad) ns sc) := by rw [cell_of_row _ _ _ _ _ _ hq5]; rfl
  have S6 := Side.set (S5.sub (E' := (i, OBox q (.cells #[.slice none 0 0, .slice ka n2 kc, .int .i64 (t : Int), .slice (some sad) ns sc, .int .i64 K, .int .i64 M, .int .i64 0, .slice none 0 0] 92 (0, 0))) :: (i + 4, SeedT g S) :: (i + 3, RowT 3 1 (.slice ka n2 kc) ks.length (i64s ks)) :: (i + 90, Box w.heap.size (setO (t : Int) (some sad) ns sc K M)) :: E) (fun x hx => by simp only [List.mem_cons] at hx ⊢; rcases hx with hx | hx | hx | hx | hx <;> simp [hx])) (fun e he => by
    simp only [List.mem_cons] at he
    rcases he with rfl | rfl | rfl | he
    · simp
    · simp
    · simp
    · have := HE.out e he; omega) (j := 3) (.slice (some ⟨g, 0, none⟩) ns gc)
  have S7 : Hid (∃ L C, NewC ms ks t S K M 0 C ∧ Side w0 (cellE i q L C ++ (i + 90, Box w.heap.size (setO (t : Int) (some sad) ns sc K M)) :: E) (w5.setCell ⟨q, 3, none⟩ (.slice (some ⟨g, 0, none⟩) ns gc))) := Lib.hid (by
    refine ⟨⟨.slice none 0 0, .slice ka n2 kc, g, gc, .slice none 0 0⟩, ⟨[], ks, t, S, K, M, 0, []⟩, ⟨by simp, rfl, rfl, rfl, rfl, rfl, rfl, rfl, fun j m s _ hs => by simp at hs⟩, ?_⟩
    have S8 := side_nil (side_nil S6 (i + 2) 97 1) (i + 1) 25 2
    refine S8.sub (fun x hx => ?_)
    unfold cellE celO stE at hx
    rw [HNS.out] at hx
    simp only [List.mem_cons, List.mem_append, List.not_mem_nil, or_false] at hx ⊢
    rcases hx with (hx | hx | hx | hx | hx) | hx | hx
    · subst hx; simp
    · subst hx; simp [fl2]
    · subst hx; simp [vals]
    · subst hx; simp
    · subst hx; simp
    · subst hx; simp
    · simp [hx])
  clear S5 S4 C4 KS hg1 hg2 hg3 hg4 hg5 hb5 hq5 S6
  go_wp2_with fail
  go_loopw [40] (fun s40 W => ∃ k : Nat, s40 = .int .i64 k ∧ k ≤ n2 ∧ Hid (∃ L C, NewC ms ks t S K M k C ∧ Side w0 (cellE i q L C ++ (i + 90, Box w.heap.size (setO (t : Int) (some sad) ns sc K M)) :: E) W)) (fun s40 _ => n2 - (RowKit.intOf s40).toNat)
  case atStart => exact ⟨0, rfl, by omega, S7⟩
  case round =>
    clear S7
    obtain ⟨k, rfl, hk, HR⟩ := hrel
    by_cases hlt : k < n2
    · obtain ⟨⟨mv, kv, g', gc', stv⟩, ⟨cms, cks, ct, cS, cK, cM, crows, cst⟩, hC, hS⟩ := HR.out
      obtain ⟨e1, e2, e3, e4, e5, e6, e7, e8, e9⟩ := hC
      simp only at e1 e2 e3 e4 e5 e6 e7 e8 e9
      replace e1 := e1.symm
      replace e2 := e2.symm
      replace e3 := e3.symm
      replace e4 := e4.symm
      replace e5 := e5.symm
      replace e6 := e6.symm
      replace e7 := e7.symm
      subst e1 e2 e3 e4 e5 e6 e7
      have hkN : k < ms.length := by rw [HN.out]; exact hlt
      have htl : (ms.take k).length = k := by rw [List.length_take]; omega
      obtain ⟨⟨mk, col⟩, hm⟩ : ∃ m, ms[k]? = some m := ⟨_, List.getElem?_eq_getElem hkN⟩
      obtain ⟨kk, hkk⟩ : ∃ c, ks[k]? = some c := ⟨_, List.getElem?_eq_getElem (by rw [HLEN.out]; exact hlt)⟩
      obtain ⟨hok, hsz⟩ := HOK.out k _ _ hm hkk
      simp only at hok hsz
      have hl2 := HL.out wr (hS.sub (fun x hx => by simp [hx]))
      have hlk := HK.out wr (hS.sub (fun x hx => by simp [hx]))
      obtain ⟨ad1, ha1, hc0, hc1⟩ := hl2.at_ (i := k) (x := meaC (mk, col)) (by rw [List.getElem?_map, hm]; rfl)
      obtain ⟨ad2, ha2⟩ := hlk.ptr (by omega)
      subst ha1 ha2
      have hk64 : i64s ks = ks.map fun n => Value.int .i64 n := rfl
      have HCK := Lib.hid (fun (V : World) (hV : Side w0 E V) => (HK.out V hV).cell (j := k) (u := .int .i64 kk) (by rw [hk64, List.getElem?_map, hkk]; rfl))
      unfold meaC at hc0 hc1
      simp only at hc0 hc1
      have l0 : (0 : Int) ≤ (k : Int) := Int.natCast_nonneg k
      have l1 : (k : Int) < (n2 : Int) := Int.ofNat_lt.2 hlt
      have hwk : IntKind.i64.wrap ((k : Int) + 1) = (k : Int) + 1 := by rw [IntKind.wrap_i64]; omega
      unfold cellE celO at hS
      simp only at hS
      rw [htl, e8] at hS
      have S9 := (hS.alloc (i + 91) (.cells #[.int .i64 mk, .string col] 25)).sub (E' := (i + 91, Box wr.heap.size (.cells #[.int .i64 mk, .string col] 25)) :: (i, OBox q (.cells #[mv, kv, .int .i64 (t : Int), .slice (some ⟨g', 0, none⟩) S.length gc', .int .i64 K, .int .i64 M, .int .i64 0, stv] 92 (0, 0))) :: (i + 1, RowT 25 2 mv k (fl2 ((ms.take k).map meaC))) :: (i + 2, RowT 97 1 stv k (vals cst)) :: (i + 3, RowT 3 1 kv ks.length (i64s ks)) :: (i + 4, SeedT g' S) :: (stE (i + 5) cst ++ (i + 90, Box w.heap.size (setO (t : Int) (some sad) ns sc K M)) :: E)) (fun x hx => by simp only [List.mem_cons, List.mem_append] at hx ⊢; rcases hx with hx | hx | hx | hx | hx | hx | hx | hx | hx <;> simp [hx])
      have HS9 := Lib.hid S9.drew
      have HCS := Lib.hid (fun (V : World) (hV : Side w0 ((i + 90, Box w.heap.size (setO (t : Int) (some sad) ns sc K M)) :: E) V) => set_cells (hV.heap (i := i + 90) (List.mem_cons_self ..)))
      have HKB := Lib.hid (fun (V : World) (hV : Side w0 ((i + 91, Box wr.heap.size (.cells #[.int .i64 mk, .string col] 25)) :: (i, OBox q (.cells #[mv, kv, .int .i64 (t : Int), .slice (some ⟨g', 0, none⟩) S.length gc', .int .i64 K, .int .i64 M, .int .i64 0, stv] 92 (0, 0))) :: (i + 1, RowT 25 2 mv k (fl2 ((ms.take k).map meaC))) :: (i + 2, RowT 97 1 stv k (vals cst)) :: (i + 3, RowT 3 1 kv ks.length (i64s ks)) :: (i + 4, SeedT g' S) :: (stE (i + 5) cst ++ (i + 90, Box w.heap.size (setO (t : Int) (some sad) ns sc K M)) :: E)) V) => begin_any hV (i + 5 + k) (HSet.out V (hV.sub (fun x hx => by simp [hx]))) t K M HG.out mk kk hok)
      have HHK := Lib.hid hk
      have HLT := Lib.hid hlt
      have HM := Lib.hid hm
      have HSZ := Lib.hid hsz
      have HTL := Lib.hid htl
      have H8 := Lib.hid e8
      have H9 := Lib.hid e9
      have C9 : (wr.alloc (.cells #[.int .i64 mk, .string col] 25)).drew.cell? ⟨wr.heap.size, 0, none⟩ = some (.int .i64 mk) ∧ (wr.alloc (.cells #[.int .i64 mk, .string col] 25)).drew.cell? (ad2.add k) = some (.int .i64 kk) ∧ _ := ⟨by rw [cell_of_row _ _ _ _ _ _ (HS9.out.heap (i := i + 91) (List.mem_cons_self ..))]; rfl, HCK.out _ (HS9.out.sub (fun x hx => by simp [hx])), HCS.out _ (HS9.out.sub (fun x hx => by simp only [List.mem_cons, List.mem_append] at hx ⊢; rcases hx with hx | hx <;> simp [hx]))⟩
      have KB := HKB.out _ HS9.out
      unfold setV at KB
      clear hl2 hlk hm hkk hok hsz htl e8 e9 hS S9 HR hkN hk HKB hk64
      go_upto_region 8 with (fail)
      refine wp_region_mix (fun V => V.cell? ⟨wr.heap.size, 0, none⟩ = some (.int .i64 mk) ∧ V.cell? (ad2.add k) = some (.int .i64 kk) ∧ V.cell? ⟨w.heap.size, 0, none⟩ = some (.int .i64 (t : Int)) ∧ V.cell? ⟨w.heap.size, 1, none⟩ = some (.slice (some sad) ns sc) ∧ V.cell? ⟨w.heap.size, 2, none⟩ = some (.int .i64 K) ∧ V.cell? ⟨w.heap.size, 3, none⟩ = some (.int .i64 M)) 9 [(true, 0), (true, 1), (true, 2), (true, 3), (true, 4), (true, 5), (true, 6), (false, 7), (true, 8)] (by kernel_rfl) (by decide +kernel) rfl (by decide +kernel) C9 ?_
      iterate 7
        refine wpMix_take (v := ?_) rfl rfl ?_ ?_
        rotate_left
        · (intro W hW; (try dsimp only at hW); go_simp) <;> with_reducible rfl
        simp only [Act.put, List.setIfInBounds_toArray, List.set_cons_zero, List.set_cons_succ]
      refine wpMix_run rfl ?_
      intro K' hK'
      go_wp2_with fail
      refine KB.mono ?_
      rintro e w10 ⟨b, s, rfl, hbeg, S10⟩
      have C10 : w10.cell? ⟨wr.heap.size, 0, none⟩ = some (.int .i64 mk) ∧ w10.cell? (ad2.add k) = some (.int .i64 kk) ∧ _ := ⟨by rw [cell_of_row _ _ _ _ _ _ (S10.out.heap (i := i + 91) (List.mem_cons_of_mem _ (List.mem_cons_self ..)))]; rfl, HCK.out _ (S10.out.sub (fun x hx => by simp [hx])), HCS.out _ (S10.out.sub (fun x hx => by simp only [List.mem_cons, List.mem_append] at hx ⊢; rcases hx with hx | hx <;> simp [hx]))⟩
      have HBEG := Lib.hid hbeg
      clear KB C9 HS9 hbeg
      go_wp2_with fail
      refine hK'.out _ _ (fun _ => C10) ?_
      clear hK' K' C10
      iterate 1
        refine wpMix_take (v := ?_) rfl rfl ?_ ?_
        rotate_left
        · (intro W hW; (try dsimp only at hW); go_simp) <;> with_reducible rfl
        simp only [Act.put, List.setIfInBounds_toArray, List.set_cons_zero, List.set_cons_succ]
      refine wpMix_nil ?_
      obtain ⟨ty, hsv⟩ : ∃ ty, Sv.val b s = .iface ty (.pointer (some ⟨b, 0, none⟩)) := by cases s <;> exact ⟨_, rfl⟩
      have hnil : ∀ W, (binOp .eql 97 (.iface ty (.pointer (some ⟨b, 0, none⟩))) .nilIface).run Tryz.prog W = .ok (.bool false) W := by rw [← hsv]; cases s <;> exact fun _ => by kernel_rfl
      have hguard : ∀ (x y : Operand) (W : World), (eqGuard .eql 97 x y (.iface ty (.pointer (some ⟨b, 0, none⟩))) .nilIface).run Tryz.prog W = .ok () W := by rw [← hsv]; cases s <;> exact fun _ _ _ => by kernel_rfl
      rw [hsv]
      have HSV := Lib.hid hsv
      have S11 := Lib.hid S10.out.drew
      obtain ⟨Tg, hTg⟩ := side_thing S11.out (i := i + 1) (A := RowT 25 2 mv k (fl2 ((ms.take k).map meaC))) (by simp)
      obtain ⟨ma, mc, hmv, _⟩ := ownsRow_form hTg.1
      obtain ⟨Tg2, hTg2⟩ := side_thing S11.out (i := i + 2) (A := RowT 97 1 stv k (vals cst)) (by simp)
      obtain ⟨sa2, sc2, hstv, _⟩ := ownsRow_form hTg2.1
      subst hmv hstv
      clear hTg hTg2 hsv S10
      have HC11 := Lib.hid (fun (V : World) (hV : Side w0 [(i, OBox q (.cells #[(.slice ma k mc), kv, .int .i64 (t : Int), .slice (some ⟨g', 0, none⟩) S.length gc', .int .i64 K, .int .i64 M, .int .i64 0, (.slice sa2 k sc2)] 92 (0, 0))), (i + 91, Box wr.heap.size (.cells #[.int .i64 mk, .string col] 25))] V) => (show V.cell? ⟨q, 0, none⟩ = some (.slice ma k mc) ∧ V.cell? ⟨wr.heap.size, 0, none⟩ = some (.int .i64 mk) ∧ V.cell? ⟨wr.heap.size, 1, none⟩ = some (.string col) from
        ⟨by rw [cell_of_row _ _ _ _ _ _ (hV.heapO (i := i) (List.mem_cons_self ..))]; rfl, by rw [cell_of_row _ _ _ _ _ _ (hV.heap (i := i + 91) (List.mem_cons_of_mem _ (List.mem_cons_self ..)))]; rfl, by rw [cell_of_row _ _ _ _ _ _ (hV.heap (i := i + 91) (List.mem_cons_of_mem _ (List.mem_cons_self ..)))]; rfl⟩))
      have C11 := HC11.out _ (S11.out.sub (fun x hx => by simp only [List.mem_cons, List.not_mem_nil, or_false] at hx; rcases hx with hx | hx <;> simp [hx]))
      have KCl := fun V => strClone_any col HSZ.out V
      have HKCl := Lib.hid KCl
      clear KCl
      go_upto_region 11 with (fail)
      refine wp_region_mix (fun V => V.cell? ⟨q, 0, none⟩ = some (.slice ma k mc) ∧ V.cell? ⟨wr.heap.size, 0, none⟩ = some (.int .i64 mk) ∧ V.cell? ⟨wr.heap.size, 1, none⟩ = some (.string col)) 15 [(true, 0), (true, 1), (true, 2), (true, 3), (true, 4), (true, 5), (true, 6), (true, 7), (true, 8), (false, 9), (true, 10), (false, 11), (false, 12), (true, 13), (true, 14), (false, 15)] (by kernel_rfl) (by decide +kernel) rfl (by decide +kernel) C11 ?_
      iterate 9
        refine wpMix_take (v := ?_) rfl rfl ?_ ?_
        rotate_left
        · (intro W hW; (try dsimp only at hW); go_simp) <;> with_reducible rfl
        simp only [Act.put, List.setIfInBounds_toArray, List.set_cons_zero, List.set_cons_succ]
      refine wpMix_run rfl ?_
      intro K' hK'
      go_wp2_with fail
      refine (HKCl.out _).mono ?_
      rintro e w12 ⟨rfl, hb12⟩
      have S12 := Lib.hid (S11.out.below hb12)
      have C12 := HC11.out _ (S12.out.sub (fun x hx => by simp only [List.mem_cons, List.not_mem_nil, or_false] at hx; rcases hx with hx | hx <;> simp [hx]))
      clear hb12 S11 HKCl C11
      go_wp2_with fail
      refine hK'.out _ _ (fun _ => C12) ?_
      clear hK' K'
      iterate 1
        refine wpMix_take (v := ?_) rfl rfl ?_ ?_
        rotate_left
        · (intro W hW; (try dsimp only at hW); go_simp) <;> with_reducible rfl
        simp only [Act.put, List.setIfInBounds_toArray, List.set_cons_zero, List.set_cons_succ]
      have S12' := S12.out.sub (E' := (i + 1, RowT 25 2 (.slice ma k mc) k (fl2 ((ms.take k).map meaC))) :: (i + 5 + k, StT b s) :: (i + 91, Box wr.heap.size (.cells #[.int .i64 mk, .string col] 25)) :: (i, OBox q (.cells #[(.slice ma k mc), kv, .int .i64 (t : Int), .slice (some ⟨g', 0, none⟩) S.length gc', .int .i64 K, .int .i64 M, .int .i64 0, (.slice sa2 k sc2)] 92 (0, 0))) :: (i + 2, RowT 97 1 (.slice sa2 k sc2) k (vals cst)) :: (i + 3, RowT 3 1 kv ks.length (i64s ks)) :: (i + 4, SeedT g' S) :: (stE (i + 5) cst ++ (i + 90, Box w.heap.size (setO (t : Int) (some sad) ns sc K M)) :: E)) (fun x hx => by simp only [List.mem_cons, List.mem_append] at hx ⊢; rcases hx with hx | hx | hx | hx | hx | hx | hx | hx | hx | hx <;> simp [hx])
      obtain ⟨v14, X, R14, S14⟩ := side_push Tryz.underlying26 infoMea rfl (by omega) S12' (fun e he => by
        simp only [List.mem_cons, List.mem_append] at he
        rcases he with rfl | rfl | rfl | rfl | rfl | rfl | he | rfl | he
        · intro h; dsimp only at h; omega
        · intro h; dsimp only at h; omega
        · intro h; dsimp only at h; omega
        · intro h; dsimp only at h; omega
        · intro h; dsimp only at h; omega
        · intro h; dsimp only at h; omega
        · have := stE_mem _ _ _ he; omega
        · intro h; dsimp only at h; omega
        · have := HE.out e he; omega) [.int .i64 mk, .string col] rfl (fun u hu => by simp at hu; rcases hu with rfl | rfl <;> rfl) (by have := H16.out; have := HLT.out; omega) (by have := H16.out; have := HLT.out; omega)
      have C13 := HC11.out _ ((S12.out.below (below_c w12 (.cells #[.int .i64 mk, .string col] 25))).sub (fun x hx => by simp only [List.mem_cons, List.not_mem_nil, or_false] at hx; rcases hx with hx | hx <;> simp [hx]))
      have C14 := HC11.out _ (S14.out.sub (fun x hx => by simp only [List.mem_cons, List.not_mem_nil, or_false] at hx; rcases hx with hx | hx <;> simp [hx]))
      obtain ⟨Tg, hTg⟩ := side_thing S14.out (i := i + 1) (List.mem_cons_self ..)
      obtain ⟨va, vc, hv14, _⟩ := ownsRow_form hTg.1
      subst hv14
      clear S12 S12' C12 hTg
      refine wpMix_run rfl ?_
      intro K' hK'
      go_wp2_with fail
      refine hK'.out _ _ (fun _ => C13) ?_
      clear hK' K'
      refine wpMix_run rfl ?_
      intro K' hK'
      go_wp2_with (at_builtin; refine wpList_append_run rfl (.tmp 59) (.tmp 66) 26 rfl rfl rfl (R14.out _) ?_)
      refine hK'.out _ _ (fun _ => C14) ?_
      clear hK' K' C13
      iterate 2
        refine wpMix_take (v := ?_) rfl rfl ?_ ?_
        rotate_left
        · (intro W hW; (try dsimp only at hW); go_simp) <;> with_reducible rfl
        simp only [Act.put, List.setIfInBounds_toArray, List.set_cons_zero, List.set_cons_succ]
      have h14q := S14.out.heapO (i := i) (b := q) (ob := (.cells #[(.slice ma k mc), kv, .int .i64 (t : Int), .slice (some ⟨g', 0, none⟩) S.length gc', .int .i64 K, .int .i64 M, .int .i64 0, (.slice sa2 k sc2)] 92 (0, 0))) (by simp)
      have f0 := free_of_row h14q 0
      have S15 := Lib.hid (Side.set (j := 0) (S14.out.sub (E' := (i, OBox q (.cells #[.slice ma k mc, kv, .int .i64 (t : Int), .slice (some ⟨g', 0, none⟩) S.length gc', .int .i64 K, .int .i64 M, .int .i64 0, .slice sa2 k sc2] 92 (0, 0))) :: (i + 1, RowT 25 2 (.slice va (k + 1) vc) (k + 1) ((fl2 ((ms.take k).map meaC)) ++ [.int .i64 mk, .string col])) :: (i + 5 + k, StT b s) :: (i + 91, Box wr.heap.size (.cells #[.int .i64 mk, .string col] 25)) :: (i + 2, RowT 97 1 (.slice sa2 k sc2) k (vals cst)) :: (i + 3, RowT 3 1 kv ks.length (i64s ks)) :: (i + 4, SeedT g' S) :: (stE (i + 5) cst ++ (i + 90, Box w.heap.size (setO (t : Int) (some sad) ns sc K M)) :: E)) (fun x hx => by simp only [List.mem_cons, List.mem_append] at hx ⊢; rcases hx with hx | hx | hx | hx | hx | hx | hx | hx | hx | hx <;> simp [hx])) (fun e he => by
        simp only [List.mem_cons, List.mem_append] at he
        rcases he with rfl | rfl | rfl | rfl | rfl | rfl | he | rfl | he
        · intro h; dsimp only at h; omega
        · intro h; dsimp only at h; omega
        · intro h; dsimp only at h; omega
        · intro h; dsimp only at h; omega
        · intro h; dsimp only at h; omega
        · intro h; dsimp only at h; omega
        · have := stE_mem _ _ _ he; omega
        · intro h; dsimp only at h; omega
        · have := HE.out e he; omega) (.slice va (k + 1) vc))
      refine wpMix_run rfl ?_
      intro K' hK'
      go_wp2_with fail
      refine hK'.out _ _ (fun h => absurd rfl h) ?_
      clear hK' K' C14 f0 h14q S14 R14 HC11
      refine wpMix_nil ?_
      obtain ⟨Y, hY⟩ : ∃ Y, X.setCell ⟨q, 0, none⟩ (.slice va (k + 1) vc) = Y := ⟨_, rfl⟩
      have S15' : Side w0 ((i + 2, RowT 97 1 (.slice sa2 k sc2) k (vals cst)) :: (i + 5 + k, StT b s) :: (i + 91, Box wr.heap.size (.cells #[.int .i64 mk, .string col] 25)) :: (i, OBox q (.cells #[.slice va (k + 1) vc, kv, .int .i64 (t : Int), .slice (some ⟨g', 0, none⟩) S.length gc', .int .i64 K, .int .i64 M, .int .i64 0, .slice sa2 k sc2] 92 (0, 0))) :: (i + 1, RowT 25 2 (.slice va (k + 1) vc) (k + 1) ((fl2 ((ms.take k).map meaC)) ++ [.int .i64 mk, .string col])) :: (i + 3, RowT 3 1 kv ks.length (i64s ks)) :: (i + 4, SeedT g' S) :: (stE (i + 5) cst ++ (i + 90, Box w.heap.size (setO (t : Int) (some sad) ns sc K M)) :: E)) Y := by
        rw [← hY]
        exact S15.out.sub (fun x hx => by simp only [List.mem_cons, List.mem_append] at hx ⊢; rcases hx with hx | hx | hx | hx | hx | hx | hx | hx | hx | hx <;> simp [hx])
      rw [hY]
      obtain ⟨v17, X2, R17, S17⟩ := side_push Tryz.underlying90 infoSta rfl (by omega) S15' (fun e he => by
        simp only [List.mem_cons, List.mem_append] at he
        rcases he with rfl | rfl | rfl | rfl | rfl | rfl | he | rfl | he
        · intro h; dsimp only at h; omega
        · intro h; dsimp only at h; omega
        · intro h; dsimp only at h; omega
        · intro h; dsimp only at h; omega
        · intro h; dsimp only at h; omega
        · intro h; dsimp only at h; omega
        · have := stE_mem _ _ _ he; omega
        · intro h; dsimp only at h; omega
        · have := HE.out e he; omega) [.iface ty (.pointer (some ⟨b, 0, none⟩))] rfl (fun u hu => by rw [List.mem_singleton] at hu; rw [hu]; rfl) (by have := H16.out; have := HLT.out; omega) (by have := H16.out; have := HLT.out; omega)
      have c7 : Y.cell? ⟨q, 7, none⟩ = some (.slice sa2 k sc2) := by rw [cell_of_row _ _ _ _ _ _ (S15'.heapO (i := i) (b := q) (ob := .cells #[.slice va (k + 1) vc, kv, .int .i64 (t : Int), .slice (some ⟨g', 0, none⟩) S.length gc', .int .i64 K, .int .i64 M, .int .i64 0, .slice sa2 k sc2] 92 (0, 0)) (by simp))]; rfl
      obtain ⟨Tg, hTg⟩ := side_thing S17.out (i := i + 2) (List.mem_cons_self ..)
      obtain ⟨vb, vd, hv17, _⟩ := ownsRow_form hTg.1
      subst hv17
      have h17q := S17.out.heapO (i := i) (b := q) (ob := .cells #[.slice va (k + 1) vc, kv, .int .i64 (t : Int), .slice (some ⟨g', 0, none⟩) S.length gc', .int .i64 K, .int .i64 M, .int .i64 0, .slice sa2 k sc2] 92 (0, 0)) (by simp)
      have f7 := free_of_row h17q 7
      have d7 : X2.cell? ⟨q, 7, none⟩ = some (.slice sa2 k sc2) := by rw [cell_of_row _ _ _ _ _ _ h17q]; rfl
      have S18 := Lib.hid (Side.set (j := 7) (S17.out.sub (E' := (i, OBox q (.cells #[.slice va (k + 1) vc, kv, .int .i64 (t : Int), .slice (some ⟨g', 0, none⟩) S.length gc', .int .i64 K, .int .i64 M, .int .i64 0, .slice sa2 k sc2] 92 (0, 0))) :: (i + 2, RowT 97 1 (.slice vb (k + 1) vd) (k + 1) ((vals cst) ++ [.iface ty (.pointer (some ⟨b, 0, none⟩))])) :: (i + 5 + k, StT b s) :: (i + 91, Box wr.heap.size (.cells #[.int .i64 mk, .string col] 25)) :: (i + 1, RowT 25 2 (.slice va (k + 1) vc) (k + 1) ((fl2 ((ms.take k).map meaC)) ++ [.int .i64 mk, .string col])) :: (i + 3, RowT 3 1 kv ks.length (i64s ks)) :: (i + 4, SeedT g' S) :: (stE (i + 5) cst ++ (i + 90, Box w.heap.size (setO (t : Int) (some sad) ns sc K M)) :: E)) (fun x hx => by simp only [List.mem_cons, List.mem_append] at hx ⊢; rcases hx with hx | hx | hx | hx | hx | hx | hx | hx | hx | hx <;> simp [hx])) (fun e he => by
        simp only [List.mem_cons, List.mem_append] at he
        rcases he with rfl | rfl | rfl | rfl | rfl | rfl | he | rfl | he
        · intro h; dsimp only at h; omega
        · intro h; dsimp only at h; omega
        · intro h; dsimp only at h; omega
        · intro h; dsimp only at h; omega
        · intro h; dsimp only at h; omega
        · intro h; dsimp only at h; omega
        · have := stE_mem _ _ _ he; omega
        · intro h; dsimp only at h; omega
        · have := HE.out e he; omega) (.slice vb (k + 1) vd))
      clear hTg S15 S15' h17q S17 hY
      go_wp2_with (at_builtin; refine wpList_append_run rfl _ _ 90 rfl rfl rfl (R17.out _) ?_)
      go_roundw
      case rel => 
        refine ⟨k + 1, by go_num, by omega, Lib.hid ⟨⟨.slice va (k + 1) vc, kv, g', gc', .slice vb (k + 1) vd⟩, ⟨ms.take (k + 1), ks, t, S, K, M, 0, cst ++ [(b, s)]⟩, ⟨rfl, rfl, rfl, rfl, rfl, rfl, rfl, by rw [List.length_append, H8.out]; rfl, fun j m s' hmj hsj => ?_⟩, ?_⟩⟩
        · rcases Nat.lt_or_ge j k with hj | hj
          · rw [List.getElem?_append_left (by rw [H8.out]; exact hj)] at hsj
            exact H9.out j m s' hmj hsj
          · rw [List.getElem?_append_right (by rw [H8.out]; exact hj), H8.out] at hsj
            have hj0 : j - k = 0 := by
              rcases Nat.eq_zero_or_pos (j - k) with h | h
              · exact h
              · rw [List.getElem?_eq_none (by simp; omega)] at hsj; cases hsj
            rw [hj0] at hsj
            simp only [List.getElem?_cons_zero, Option.some.injEq] at hsj
            subst hsj
            have hjk : j = k := by omega
            subst hjk
            rw [HM.out] at hmj
            simp only [Option.some.injEq] at hmj
            subst hmj
            exact HBEG.out
        · have htk : ms.take (k + 1) = ms.take k ++ [(mk, col)] := by rw [List.take_add_one, HM.out]; rfl
          refine S18.out.sub (fun x hx => ?_)
          unfold cellE celO at hx
          rw [stE_snoc, htk] at hx
          simp only [List.mem_cons, List.mem_append, List.length_append, HTL.out, H8.out, List.length_cons, List.length_nil, List.not_mem_nil, or_false, Nat.zero_add] at hx ⊢
          rcases hx with (hx | hx | hx | hx | hx | hx | hx) | hx | hx
          · subst hx; simp
          · subst hx; simp [fl2, meaC]
          · subst hx; simp [vals, HSV.out]
          · subst hx; simp
          · subst hx; simp
          · simp [hx]
          · subst hx; simp
          · subst hx; simp
          · simp [hx]
      case measure => have := HLT.out; simp [RowKit.intOf]; omega
    · obtain ⟨L, C, hC, hS⟩ := HR.out
      have hkN : k = n2 := by omega
      have FI : P (.returned (.pointer (some ⟨q, 0, none⟩))) wr := by
        rw [← HP.out]
        exact ⟨q, L, C, rfl, by rw [HN.out, ← hkN]; exact hC, Lib.hid (hS.sub (fun x hx => by simp only [List.mem_append, List.mem_cons] at hx ⊢; rcases hx with hx | hx <;> simp [hx]))⟩
      have hlt' : ¬ ((k : Int) < (n2 : Int)) := by omega
      clear hC hS HR hlt hk hkN
      go_wp2_with fail
      exact FI
end Go.Proofs.YtlhpbfjelgmkeaaGreat
/- A measure takes a value, whichever state it has: one form for the call through the interface. Conditions: few values; values of kinds. -/
set_option maxRecDepth 100000
namespace Go.Proofs.YtlhpbfjelgmkeaaGreat
open Go.RowKit Go.Maps Go.Sort Go.Lib
open Wide

/-- a function's number that is entered when it is called -/
def EntC (f : Nat) : Prop := ∀ (args : Array Value) (W : World), (callFunc f args).run Tryz.prog W = .ok (.enter f args) W
theorem entC_of {f : Nat} {fn : Func} (hf : Tryz.prog.funcs[f]? = some fn) (hname : (fn.name == "runtime.NumGoroutine") = false) {c : Code} (hb : fn.body = some c) : EntC f := fun args W => by
  have h1 : fn.name ≠ "runtime.NumGoroutine" := by simpa using hname
  simp [callFunc, hf, h1, hb]
def takeS (v : VV) (id : Int) : Sv → Sv
  | .cnt n => .cnt (n + 1)
  | .sum N n => .sum (N + v.n) (n + 1)
  | .low o => .low (lowV o v)
  | .high o => .high (highV o v)
  | .dis p V => .dis p (V.ins (wi id))
/-- what is kept of at most m values -/
def smallS (m : Nat) : Sv → Prop
  | .cnt n => n ≤ m
  | .sum N n => n ≤ m ∧ -((m : Int) * 9223372036854775808) ≤ N ∧ N ≤ (m : Int) * 9223372036854775808
  | .low o => o.fine
  | .high o => o.fine
  | .dis _ _ => True
theorem small_fit {m : Nat} {N : Int} (hm : m ≤ 1099511627776) (h : -((m : Int) * 9223372036854775808) ≤ N ∧ N ≤ (m : Int) * 9223372036854775808) : fitW N = true := fit_iff.2 (by omega)
theorem small_take {m : Nat} {v : VV} {id : Int} (hv : v.fine) : ∀ {s : Sv}, smallS m s → smallS (m + 1) (takeS v id s)
  | .cnt n, h => by unfold smallS takeS at *; omega
  | .sum N n, h => by
    unfold smallS takeS at *
    have := hv.2
    refine ⟨by omega, ?_, ?_⟩
    · simp only [Int.natCast_add, Int.add_mul]; omega
    · simp only [Int.natCast_add, Int.add_mul]; omega
  | .low o, h => show (lowV o v).fine by
    unfold lowV
    split
    · exact hv
    · split
      · exact hv
      · exact h
  | .high o, h => show (highV o v).fine by
    unfold highV
    split
    · exact hv
    · exact h
  | .dis _ _, _ => trivial
theorem small_begun {t : Nat} {S : List (Nat × Nat)} {mk : Int} {s : Sv} (h : Begun t S mk s) : smallS 0 s := by
  rcases h with ⟨_, rfl⟩ | ⟨_, rfl⟩ | ⟨_, rfl⟩ | ⟨_, rfl⟩ | ⟨_, p, rfl⟩
  · exact Nat.le_refl _
  · exact ⟨Nat.le_refl _, by decide, by decide⟩
  · exact ⟨by decide, by decide, by decide⟩
  · exact ⟨by decide, by decide, by decide⟩
  · trivial
/-- the call of take, in letters -/
structure TakeC (b : Nat) (s : Sv) (ty f : Nat) : Prop where
  val : Sv.val b s = .iface ty (.pointer (some ⟨b, 0, none⟩))
  meth : ∀ w, (method 501 ty (.pointer (some ⟨b, 0, none⟩)) "talus/cell.take").run Tryz.prog w = .ok (f, .pointer (some ⟨b, 0, none⟩)) w
  ent : EntC f
  call : ∀ {w0 w : World} {E : List (Nat × Thing)} {j m : Nat} {v : VV} {id : Int}, Side w0 ((j, StT b s) :: E) w → (∀ e ∈ E, e.1 ≠ j) → smallS m s → m ≤ 1000000 → v.fine →
    Calls Tryz.prog f #[.pointer (some ⟨b, 0, none⟩), v.val, .int .i64 id] w fun e w' => e = .returned (.tuple #[]) ∧ Hid (Side w0 ((j, StT b (takeS v id s)) :: E) w')
theorem take_call (b : Nat) (s : Sv) : ∃ ty f, TakeC b s ty f := by
  cases s with
  | cnt n => exact ⟨_, _, rfl, fun w => m_count_take _ w, entC_of Tryz.func194 (by kernel_rfl) rfl, fun {w0 w E j m v id} h hi hs hm _ =>
      (take_cnt (h.heapO (List.mem_cons_self ..)) (by unfold smallS at hs; omega) v id).mono fun _ _ ⟨a, u⟩ => ⟨a, Lib.hid (side_upd h hi u)⟩⟩
  | sum N n => exact ⟨_, _, rfl, fun w => m_sum_take _ w, entC_of Tryz.func196 (by kernel_rfl) rfl, fun {w0 w E j m v id} h hi hs hm hv =>
      (take_sum (h.heapO (List.mem_cons_self ..)) (small_fit (by omega) hs.2) v hv.2 (by have := hs.2; have := hv.2; rw [fit_iff]; omega) (by have := hs.1; omega) id).mono fun _ _ ⟨a, u⟩ => ⟨a, Lib.hid (side_upd h hi u)⟩⟩
  | low o => exact ⟨_, _, rfl, fun w => m_least_take _ w, entC_of Tryz.func202 (by kernel_rfl) rfl, fun {w0 w E j m v id} h hi hs hm hv =>
      (take_low (h.heapO (List.mem_cons_self ..)) hs v hv id).mono fun _ _ ⟨a, u⟩ => ⟨a, Lib.hid (side_upd h hi u)⟩⟩
  | high o => exact ⟨_, _, rfl, fun w => m_greatest_take _ w, entC_of Tryz.func204 (by kernel_rfl) rfl, fun {w0 w E j m v id} h hi hs hm hv =>
      (take_high (h.heapO (List.mem_cons_self ..)) hs v hv id).mono fun _ _ ⟨a, u⟩ => ⟨a, Lib.hid (side_upd h hi u)⟩⟩
  | dis p V => exact ⟨_, _, rfl, fun w => m_distinct_take _ w, entC_of Tryz.func206 (by kernel_rfl) rfl, fun {w0 w E j m v id} h hi hs hm hv =>
      (h.step hi (DisT.framed b p _) (Pr := fun e => e = .returned (.tuple #[])) fun _ _ hA => take_dis (hA _ (List.mem_cons_self ..)) v id).mono fun _ _ ⟨a, u⟩ => ⟨a, Lib.hid u⟩⟩
end Go.Proofs.YtlhpbfjelgmkeaaGreat
/- A cell that was made: what it has, and whether values fit. Conditions: kinds 1 to 4; values with numbers that are ints. -/
set_option maxRecDepth 100000
namespace Go.Proofs.YtlhpbfjelgmkeaaGreat
open Go.RowKit Go.Maps Go.Sort Go.Lib
open Wide

section
variable {w0 w : World} {E : List (Nat × Thing)} {i q : Nat} {L : Lay} {C : Cv}
theorem cmade_yes (h : w.heap[q]? = some (celO L C)) (ht : 1 ≤ C.t) : Calls Tryz.prog 36 #[.pointer (some ⟨q, 0, none⟩)] w fun e w' => e = .returned (.bool true) ∧ w = w' := by
  have c2 : w.cell? ⟨q, 2, none⟩ = some (.int .i64 (C.t : Int)) := by rw [cell_of_row _ _ _ _ _ _ h]; rfl
  have t0 : decide ((0 : Int) < (C.t : Int)) = true := decide_eq_true (by omega)
  have t1 : 0 < C.t := by omega
  generalize C.t = t at *
  clear h ht
  go_enter Tryz.func36, Tryz.ntmps36
  go_wp2_with fail
  go_ret
  exact ⟨rfl, rfl⟩
theorem crows_at (h : w.heap[q]? = some (celO L C)) (ht : 1 ≤ C.t) : Calls Tryz.prog 14 #[.pointer (some ⟨q, 0, none⟩)] w fun e w' => e = .returned (.int .i64 (C.rows : Int)) ∧ w = w' := by
  have KM := cmade_yes h ht
  have c6 : w.cell? ⟨q, 6, none⟩ = some (.int .i64 (C.rows : Int)) := by rw [cell_of_row _ _ _ _ _ _ h]; rfl
  generalize C.rows = n at *
  clear h ht
  go_enter Tryz.func14, Tryz.ntmps14
  go_wp2_with fail
  refine KM.mono ?_
  rintro e w' ⟨rfl, rfl⟩
  clear KM
  go_wp2_with fail
  go_ret
  exact ⟨rfl, rfl⟩
theorem row_cell1 {e n : Nat} {a : Option Addr} {k c : Nat} {xs : List Value} (h : w.ownsRow 0 e 1 (.slice a k c) n xs) {j : Nat} {u : Value} (hj : xs[j]? = some u) : ∃ ad : Addr, a = some ad ∧ w.cell? (ad.add j) = some u := by
  rcases h.2 with ⟨e1, hn⟩ | ⟨g, cap, cur, e1, _⟩
  · have h1 := h.1
    rw [hn] at h1
    have : xs = [] := List.eq_nil_of_length_eq_zero (by omega)
    subst this
    simp at hj
  · cases e1
    exact ⟨_, rfl, h.cells (g := g) rfl _ _ hj⟩
theorem cstate_at (h : Side w0 E w) (h1 : (i, OBox q (celO L C)) ∈ E) (h2 : (i + 2, RowT 97 1 L.sv C.st.length (vals C.st)) ∈ E) (ht : 1 ≤ C.t) {m : Nat} {s : Nat × Sv} (hm : C.st[m]? = some s) :
    Calls Tryz.prog 40 #[.pointer (some ⟨q, 0, none⟩), .int .i64 (m : Int)] w fun e w' => e = .returned (Sv.val s.1 s.2) ∧ w = w' := by
  have hq := h.heapO h1
  have KM := cmade_yes hq ht
  obtain ⟨T, hT⟩ := side_thing h h2
  obtain ⟨sa, sc, hsv, _⟩ := ownsRow_form hT.1
  have hr := hT.1
  rw [hsv] at hr
  obtain ⟨sad, rfl, hc⟩ := row_cell1 hr (j := m) (u := Sv.val s.1 s.2) (by unfold vals; rw [List.getElem?_map, hm]; rfl)
  have hlt : m < C.st.length := (List.getElem?_eq_some_iff.1 hm).1
  have c7 : w.cell? ⟨q, 7, none⟩ = some L.sv := by rw [cell_of_row _ _ _ _ _ _ hq]; rfl
  rw [hsv] at c7
  generalize C.st.length = n at *
  have l0 : (0 : Int) ≤ (m : Int) := Int.natCast_nonneg m
  have l1 : (m : Int) < (n : Int) := Int.ofNat_lt.2 hlt
  have t0 : decide ((m : Int) < 0) = false := decide_eq_false (by omega)
  have t1 : decide ((n : Int) ≤ (m : Int)) = false := decide_eq_false (by omega)
  have t2 : ¬ n ≤ m := by omega
  obtain ⟨sv, hsv2⟩ : ∃ x, Sv.val s.1 s.2 = x := ⟨_, rfl⟩
  rw [hsv2] at hc ⊢
  clear h h1 h2 hq hT hr hsv hm hsv2 ht
  go_enter Tryz.func40, Tryz.ntmps40
  go_wp2_with fail
  refine KM.mono ?_
  rintro e w' ⟨rfl, rfl⟩
  clear KM
  go_wp2_with fail
  go_ret
  exact ⟨rfl, rfl⟩
end
/-- do values fit kinds? -/
def fitsL (xs : List VV) (ks : List Int) : Bool := (xs.zip ks).all fun p => fitsV p.2 p.1
theorem fitsL_no {xs : List VV} {ks : List Int} {j : Nat} {v : VV} {k : Int} (hv : xs[j]? = some v) (hk : ks[j]? = some k) (h : fitsV k v = false) : fitsL xs ks = false := by
  unfold fitsL
  rw [List.all_eq_false]
  exact ⟨(v, k), List.mem_of_getElem? (i := j) (by rw [List.getElem?_zip_eq_some]; exact ⟨hv, hk⟩), by simp [h]⟩
theorem fitsL_yes {xs : List VV} {ks : List Int} (h : ∀ (j : Nat) v k, xs[j]? = some v → ks[j]? = some k → fitsV k v = true) : fitsL xs ks = true := by
  unfold fitsL
  rw [List.all_eq_true]
  intro p hp
  obtain ⟨j, hj⟩ := List.getElem?_of_mem hp
  rw [List.getElem?_zip_eq_some] at hj
  exact h j _ _ hj.1 hj.2

end Go.Proofs.YtlhpbfjelgmkeaaGreat
