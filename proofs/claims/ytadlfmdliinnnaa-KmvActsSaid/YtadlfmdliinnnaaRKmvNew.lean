/- Contract of the reference's New: an empty sketch, or nil. Conditions: none. -/
import Derived.Test.YtadlfmdliinnnaaKmvGood
import Derived.Test.YtadlfmdliinnnaaRKmvSk
import Derived.Test.YtadlfmdliinnnaaSched
import Derived.Test.YtadlfmdliinnnaaKmvOrder
set_option maxRecDepth 100000
namespace Go.Proofs.Ytadlfmdliinnnaa
open Go.RowKit Go.Maps Go.Sort

theorem goodB_rest {t k m : Int} {S : List (Nat × Nat)} (h : restB t S.length k m = false) : goodB t S k m = false := by unfold goodB; rw [h, Bool.and_false]
theorem restB_t {t k m : Int} {n : Nat} (h : ¬ (2 ≤ t ∧ t ≤ 64)) : restB t n k m = false := by unfold restB; rw [decide_eq_false_iff_not]; exact fun g => h g.2.2.1
theorem restB_n {t k m : Int} {n : Nat} (h : ¬ (n = 1 ∨ n = 3 ∨ n = 5 ∨ n = 7)) : restB t n k m = false := by unfold restB; rw [decide_eq_false_iff_not]; intro g; have := g.1; have := g.2.1; omega
theorem restB_km {t k m : Int} {n : Nat} (ht : 2 ≤ t ∧ t ≤ 64) (hn : n = 1 ∨ n = 3 ∨ n = 5 ∨ n = 7) : restB t n k m = decide ((1 ≤ k ∧ k ≤ 64) ∧ (1 ≤ m ∧ m ≤ 64)) := by
  unfold restB
  rw [decide_eq_decide]
  constructor
  · exact fun g => g.2.2.2
  · exact fun g => ⟨by omega, by omega, ht, g⟩

/-- what the walk reads of the box -/
def BoxS (b : Nat) (t : Int) (sa : Option Addr) (n sc : Nat) (k m : Int) (W : World) : Prop :=
  W.cell? ⟨b, 0, none⟩ = some (.int .i64 t) ∧ W.cell? ⟨b, 1, none⟩ = some (.slice sa n sc) ∧ W.cell? ⟨b, 2, none⟩ = some (.int .i64 k) ∧ W.cell? ⟨b, 3, none⟩ = some (.int .i64 m)
theorem BoxS.below {b : Nat} {t : Int} {sa : Option Addr} {n sc : Nat} {k m : Int} {W W' : World} (h : BoxS b t sa n sc k m W) (hb : Below W.heap.size W W') : BoxS b t sa n sc k m W' := by
  obtain ⟨h1, h2, h3, h4⟩ := h
  have l : ∀ {a : Addr} {u}, W.cell? a = some u → W'.cell? a = some u := fun {a u} ha => by rw [hb.cell (World.block_lt_of_cell? W a ha)]; exact ha
  exact ⟨l h1, l h2, l h3, l h4⟩

set_option maxHeartbeats 6400000 in
theorem rgood_t {w : World} {sa : Option Addr} {n sc : Nat} {S : List (Nat × Nat)} (h : SetAt w sa n sc S) (t k m : Int) (ht : ¬ (2 ≤ t ∧ t ≤ 64)) :
    Calls Try.prog 12 #[.agg #[.int .i64 t, .slice sa n sc, .int .i64 k, .int .i64 m]] w fun e w' => e = .returned (.bool (goodB t S k m)) ∧ Below w.heap.size w w' := by
  have hb0 := (Below.refl w.heap.size w).alloc (Nat.le_refl _) (.cells #[.int .i64 t, .slice sa n sc, .int .i64 k, .int .i64 m] 24)
  have hw1 := alloc1 w (.cells #[.int .i64 t, .slice sa n sc, .int .i64 k, .int .i64 m] 24)
  have c0 : (w.alloc (.cells #[.int .i64 t, .slice sa n sc, .int .i64 k, .int .i64 m] 24)).cell? ⟨w.heap.size, 0, none⟩ = some (.int .i64 t) := by rw [cell_of_row _ _ _ _ _ _ hw1]; rfl
  have c1 : (w.alloc (.cells #[.int .i64 t, .slice sa n sc, .int .i64 k, .int .i64 m] 24)).cell? ⟨w.heap.size, 1, none⟩ = some (.slice sa n sc) := by rw [cell_of_row _ _ _ _ _ _ hw1]; rfl
  have HB := Lib.hid hb0
  have HD : Hid (goodB t S k m = false) := Lib.hid (goodB_rest (restB_t ht))
  have hcm := h.cap
  clear h hb0 hw1
  by_cases h2 : t < 2
  · have t0 : decide (t < 2) = true := decide_eq_true h2
    clear ht
    go_enter Try.func12, Try.ntmps12
    go_wp2_with fail
    go_ret
    exact ⟨ret_bool HD.out.symm, HB.out⟩
  · have t0 : decide (t < 2) = false := decide_eq_false h2
    have t1 : decide (64 < t) = true := decide_eq_true (by omega)
    clear ht
    go_enter Try.func12, Try.ntmps12
    go_wp2_with fail
    go_ret
    exact ⟨ret_bool HD.out.symm, HB.out⟩

set_option maxHeartbeats 6400000 in
theorem rgood_n {w : World} {sa : Option Addr} {n sc : Nat} {S : List (Nat × Nat)} (h : SetAt w sa n sc S) (t k m : Int) (ht : 2 ≤ t ∧ t ≤ 64) (hn : ¬ (n = 1 ∨ n = 3 ∨ n = 5 ∨ n = 7)) :
    Calls Try.prog 12 #[.agg #[.int .i64 t, .slice sa n sc, .int .i64 k, .int .i64 m]] w fun e w' => e = .returned (.bool (goodB t S k m)) ∧ Below w.heap.size w w' := by
  have hb0 := (Below.refl w.heap.size w).alloc (Nat.le_refl _) (.cells #[.int .i64 t, .slice sa n sc, .int .i64 k, .int .i64 m] 24)
  have hw1 := alloc1 w (.cells #[.int .i64 t, .slice sa n sc, .int .i64 k, .int .i64 m] 24)
  have c0 : (w.alloc (.cells #[.int .i64 t, .slice sa n sc, .int .i64 k, .int .i64 m] 24)).cell? ⟨w.heap.size, 0, none⟩ = some (.int .i64 t) := by rw [cell_of_row _ _ _ _ _ _ hw1]; rfl
  have c1 : (w.alloc (.cells #[.int .i64 t, .slice sa n sc, .int .i64 k, .int .i64 m] 24)).cell? ⟨w.heap.size, 1, none⟩ = some (.slice sa n sc) := by rw [cell_of_row _ _ _ _ _ _ hw1]; rfl
  have HB := Lib.hid hb0
  have HD : Hid (goodB t S k m = false) := Lib.hid (goodB_rest (restB_n (by rw [h.len]; exact hn)))
  have hcm := h.cap
  have t0 : decide (t < 2) = false := decide_eq_false (by omega)
  have t1 : decide (64 < t) = false := decide_eq_false (by omega)
  have n1 : ((n : Int) != 1) = true := by rw [bne_iff_ne]; omega
  have n3 : ((n : Int) != 3) = true := by rw [bne_iff_ne]; omega
  have n5 : ((n : Int) != 5) = true := by rw [bne_iff_ne]; omega
  have n7 : ((n : Int) != 7) = true := by rw [bne_iff_ne]; omega
  clear h hb0 hw1 ht hn
  go_enter Try.func12, Try.ntmps12
  go_wp2_with fail
  go_ret
  exact ⟨ret_bool HD.out.symm, HB.out⟩

set_option maxHeartbeats 12800000 in
theorem rgood_main {w : World} {sa : Option Addr} {n sc : Nat} {S : List (Nat × Nat)} (h : SetAt w sa n sc S) (t k m : Int) (ht : 2 ≤ t ∧ t ≤ 64) (hn : n = 1 ∨ n = 3 ∨ n = 5 ∨ n = 7) :
    Calls Try.prog 12 #[.agg #[.int .i64 t, .slice sa n sc, .int .i64 k, .int .i64 m]] w fun e w' => e = .returned (.bool (goodB t S k m)) ∧ Below w.heap.size w w' := by
  have hb0 := (Below.refl w.heap.size w).alloc (Nat.le_refl _) (.cells #[.int .i64 t, .slice sa n sc, .int .i64 k, .int .i64 m] 24)
  have hw1 := alloc1 w (.cells #[.int .i64 t, .slice sa n sc, .int .i64 k, .int .i64 m] 24)
  have hBx : BoxS w.heap.size t sa n sc k m (w.alloc (.cells #[.int .i64 t, .slice sa n sc, .int .i64 k, .int .i64 m] 24)) := by
    refine ⟨?_, ?_, ?_, ?_⟩ <;> (rw [cell_of_row _ _ _ _ _ _ hw1]; rfl)
  have HBX := Lib.hid hBx
  obtain ⟨c0, c1, _, _⟩ := hBx
  have HS := Lib.hid (h.below hb0)
  have HB := Lib.hid hb0
  have hcm := h.cap
  have HN := Lib.hid h.len
  have HKM : Hid (S.all seedB = true → goodB t S k m = decide ((1 ≤ k ∧ k ≤ 64) ∧ (1 ≤ m ∧ m ≤ 64))) := Lib.hid (fun hs => by rw [goodB_all hs]; exact restB_km ht (by rw [h.len]; exact hn))
  have hn7 : n ≤ 7 := by omega
  have hn1 : 1 ≤ n := by omega
  have t0 : decide (t < 2) = false := decide_eq_false (by omega)
  have t1 : decide (64 < t) = false := decide_eq_false (by omega)
  clear h hb0 hw1 ht
  rcases hn with e | e | e | e
  all_goals
    first
      | have n1 : ((n : Int) != 1) = true := by rw [bne_iff_ne]; omega
      | have n1 : ((n : Int) != 1) = false := by rw [bne_eq_false_iff_eq]; omega
    first
      | have n3 : ((n : Int) != 3) = true := by rw [bne_iff_ne]; omega
      | have n3 : ((n : Int) != 3) = false := by rw [bne_eq_false_iff_eq]; omega
    first
      | have n5 : ((n : Int) != 5) = true := by rw [bne_iff_ne]; omega
      | have n5 : ((n : Int) != 5) = false := by rw [bne_eq_false_iff_eq]; omega
    first
      | have n7 : ((n : Int) != 7) = true := by rw [bne_iff_ne]; omega
      | have n7 : ((n : Int) != 7) = false := by rw [bne_eq_false_iff_eq]; omega
    clear e
    go_enter Try.func12, Try.ntmps12
    go_wp2_with fail
    have HB2 : Hid (Below (w.alloc (.cells #[.int .i64 t, .slice sa n sc, .int .i64 k, .int .i64 m] 24)).heap.size (w.alloc (.cells #[.int .i64 t, .slice sa n sc, .int .i64 k, .int .i64 m] 24)) (w.alloc (.cells #[.int .i64 t, .slice sa n sc, .int .i64 k, .int .i64 m] 24))) := Lib.hid (Below.refl _ _)
    obtain ⟨W, hW⟩ : ∃ W, W = w.alloc (.cells #[.int .i64 t, .slice sa n sc, .int .i64 k, .int .i64 m] 24) := ⟨_, rfl⟩
    rw [← hW] at HS HB HBX HB2 c0 c1 ⊢
    clear hW c0 c1 n1 n3 n5 n7 t0 t1
    go_loopw [5, 36] (fun _ i wr => ∃ j : Nat, i = .int .i64 j ∧ j ≤ n ∧ Hid ((S.take j).all seedB = true) ∧ Hid (Below W.heap.size W wr)) (fun _ i _ => n - (intOf i).toNat)
    case atStart => exact ⟨0, rfl, Nat.zero_le _, Lib.hid rfl, HB2⟩
    case round =>
      obtain ⟨j, rfl, hj, HT, HR⟩ := hrel
      by_cases hlt : j < n
      · have hjS : j < S.length := by rw [HN.out]; exact hlt
        obtain ⟨ad, rfl, hsd⟩ := (HS.out.below HR.out).at_ (by omega)
        obtain ⟨d0, d1⟩ := hsd.read hjS
        have b0 : (0 : Int) ≤ (j : Int) := by omega
        have b1 : (j : Int) < (n : Int) := by omega
        have HM := Lib.hid (List.getElem_mem hjS)
        have HNX := Lib.hid (List.take_succ_eq_append_getElem hjS)
        generalize S[j] = sd at *
        obtain ⟨A, B⟩ := sd
        have HD : Hid (seedB (A, B) = decide (0 < A ∧ A < 2305843009213693951 ∧ B < 2305843009213693951)) := Lib.hid rfl
        simp only at d0 d1
        have HE := Lib.hid (fun (hbad : seedB (A, B) = false) => goodB_bad (t := t) (k := k) (m := m) HM.out hbad)
        clear hsd
        by_cases g0 : A = 0
        · have t0 : ((A : Int) == 0) = true := by rw [beq_iff_eq]; omega
          have HV : Hid (goodB t S k m = false) := Lib.hid (HE.out (by rw [HD.out]; simp [g0]))
          clear g0 HE HD
          go_wp2_with fail
          go_ret
          exact ⟨ret_bool HV.out.symm, HB.out.trans ((HR.out.alloc HR.out.size _).mono HB.out.size)⟩
        · have t0 : ((A : Int) == 0) = false := by rw [beq_eq_false_iff_ne]; omega
          by_cases g1 : A < 2305843009213693951
          · have t1 : decide ((2305843009213693951 : Int) ≤ (A : Int)) = false := decide_eq_false (by omega)
            by_cases g2 : B < 2305843009213693951
            · have t2 : decide ((2305843009213693951 : Int) ≤ (B : Int)) = false := decide_eq_false (by omega)
              have HT2 : Hid ((S.take (j + 1)).all seedB = true) := Lib.hid (by rw [HNX.out, List.all_append, HT.out]; simp [HD.out, g1, g2]; omega)
              clear g0 g1 g2 HE HD
              go_wp2_with fail
              go_roundw
              case rel => exact ⟨j + 1, by go_num, by omega, HT2, Lib.hid (HR.out.alloc HR.out.size _)⟩
              case measure => simp [intOf]; omega
            · have t2 : decide ((2305843009213693951 : Int) ≤ (B : Int)) = true := decide_eq_true (by omega)
              have HV : Hid (goodB t S k m = false) := Lib.hid (HE.out (by rw [HD.out]; simp [g2]))
              clear g0 g1 g2 HE HD
              go_wp2_with fail
              go_ret
              exact ⟨ret_bool HV.out.symm, HB.out.trans ((HR.out.alloc HR.out.size _).mono HB.out.size)⟩
          · have t1 : decide ((2305843009213693951 : Int) ≤ (A : Int)) = true := decide_eq_true (by omega)
            have HV : Hid (goodB t S k m = false) := Lib.hid (HE.out (by rw [HD.out]; simp [g1]))
            clear g0 g1 HE HD
            go_wp2_with fail
            go_ret
            exact ⟨ret_bool HV.out.symm, HB.out.trans ((HR.out.alloc HR.out.size _).mono HB.out.size)⟩
      · have hje : j = n := by omega
        obtain ⟨_, _, q2, q3⟩ := HBX.out.below HR.out
        have HV : Hid (goodB t S k m = decide ((1 ≤ k ∧ k ≤ 64) ∧ (1 ≤ m ∧ m ≤ 64))) := Lib.hid (HKM.out (by
          have := HT.out
          rw [hje, ← HN.out, List.take_length] at this
          exact this))
        have HP : Hid (Below w.heap.size w wr) := Lib.hid (HB.out.trans (HR.out.mono HB.out.size))
        clear HT HR HS HBX hje
        go_wp2_with fail
        all_goals
          go_ret
          refine ⟨ret_bool ?_, HP.out⟩
          rw [HV.out, Bool.eq_iff_iff]
          simp
          omega

theorem rgood_any {w : World} {sa : Option Addr} {n sc : Nat} {S : List (Nat × Nat)} (h : SetAt w sa n sc S) (t k m : Int) :
    Calls Try.prog 12 #[.agg #[.int .i64 t, .slice sa n sc, .int .i64 k, .int .i64 m]] w fun e w' => e = .returned (.bool (goodB t S k m)) ∧ Below w.heap.size w w' := by
  by_cases ht : 2 ≤ t ∧ t ≤ 64
  · by_cases hn : n = 1 ∨ n = 3 ∨ n = 5 ∨ n = 7
    · exact rgood_main h t k m ht hn
    · exact rgood_n h t k m ht hn
  · exact rgood_t h t k m ht
end Go.Proofs.Ytadlfmdliinnnaa
namespace Go.Proofs.Ytadlfmdliinnnaa
open Go.RowKit Go.Maps Go.Sort

/-- a copy of seeds by append onto an empty one -/
theorem seeds_app {w : World} {ad : Addr} {c : Nat} {S : List (Nat × Nat)} (h : SeedsIn w ad S) (h0 : 1 ≤ S.length) (hl : S.length ≤ 1000000) :
    ∃ g c2 w2, (∀ ty, (Builtin.append_ #[22, 22] ty #[.slice (some ⟨w.heap.size, 0, none⟩) 0 0, .slice (some ad) S.length c]).run Try.prog (w.alloc (.cells #[] 65)) = .ok (.slice (some ⟨g, 0, none⟩) S.length c2) w2) ∧
      w.heap.size ≤ g ∧ g < w2.heap.size ∧ S.length ≤ c2 ∧ c2 ≤ maxLen ∧ SeedsIn w2 ⟨g, 0, none⟩ S ∧ Below w.heap.size w w2 := by
  have hb1 := (Below.refl w.heap.size w).alloc (Nat.le_refl _) (.cells #[] 65)
  have hr1 := World.ownsRow_made w (base := w.heap.size) (e := 65) (size := 2) #[] 0 (Nat.le_refl _) (by unfold maxLen; omega) (by simp)
  obtain ⟨i, hi, hz, hs, hby⟩ : ∃ i, Try.prog.info? 65 = some i ∧ (∃ z, i.zero = some z ∧ z.cells.size = 2) ∧ i.size = 2 ∧ i.bytes = 16 := by
    have := infoSeed
    cases hi : Try.prog.info? 65 with
    | none => rw [hi] at this; cases this
    | some i =>
      rw [hi] at this
      simp only [Option.map_some, Option.some.injEq, Prod.mk.injEq] at this
      obtain ⟨h1, h2, h3⟩ := this
      cases hz : i.zero with
      | none => rw [hz] at h1; cases h1
      | some z => rw [hz] at h1; exact ⟨i, rfl, ⟨z, hz, by simpa using h1⟩, h2, h3⟩
  obtain ⟨z, hz, hzs⟩ := hz
  have hcell : ∀ j u, (flat S)[j]? = some u → (w.alloc (.cells #[] 65)).cell? (ad.add j) = some u := fun j u hj => by
    rw [hb1.cell (World.block_lt_of_cell? w _ (h j u hj))]; exact h j u hj
  obtain ⟨v2, w2, r, o, g, _⟩ := run_append_own (P := Try.prog) (w.alloc (.cells #[] 65)) w.heap.size 22 0 65 i z 2 16 Try.underlying22 hi hz hs hby hzs (by omega) _ 0 [] hr1 ad S.length c (flat S) (by rw [flat_len]; omega) hcell (flat_one S) (by unfold maxLen; omega) (by omega) hb1.size
  rw [Nat.zero_add, List.nil_append] at o
  rcases o.2 with ⟨_, e⟩ | ⟨b, cap, cur, rfl, hbb, hg, h1, h2, _⟩
  · omega
  · exact ⟨b, cap, w2, fun ty => r, hbb, lt_of_heap hg, h1, h2, fun j u hj => o.cells (g := b) rfl j u hj, hb1.trans (below_grown g hb1.size (fun k e => by simp [Value.ownBlock] at e; omega))⟩

section
variable {P : Program} {w : World}
/-- append of m elements of one cell each, from an address -/
theorem append_own_by (B : Nat) (t ty e : TypeId) (i : TypeInfo) (z : Value) (ht : P.underlying t = some (.slice e)) (hi : P.info? e = some i) (hz : i.zero = some z) (hsize : i.size = 1) (hzs : z.cells.size = 1)
    (v : Value) (n : Nat) (xs : List Value) (hown : w.ownsRow B e 1 v n xs) (hB : B ≤ w.heap.size)
    (a : Addr) (m c : Nat) (news : List Value) (hl : news.length = m) (hnews : ∀ j u, news[j]? = some u → w.cell? (a.add j) = some u) (h1 : ∀ u ∈ news, u.oneCell' = true)
    (h63 : n + m ≤ 1000000) (hbb : (n + m) * i.bytes ≤ 140737488355328) :
    ∃ v' w', (Builtin.append_ #[t, t] ty #[v, .slice (some a) m c]).run P w = .ok v' w' ∧ w'.ownsRow B e 1 v' (n + m) (xs ++ news) ∧ w.grownBy w' v.ownBlock ∧
      (v'.ownBlock = v.ownBlock ∨ v'.ownBlock = some w.heap.size) := by
  have hl1 : news.length = m * i.size := by rw [hsize, Nat.mul_one]; exact hl
  have h63 : n + m ≤ maxLen := by unfold maxLen; omega
  obtain ⟨v', w', hr, h2, h3, _⟩ := run_append_own (P := P) w B t ty e i z 1 i.bytes ht hi hz hsize rfl hzs (by omega) v n xs hown a m c news (by omega) hnews h1 h63 hbb hB
  refine ⟨v', w', hr, h2, h3, ?_⟩
  rcases hown.2 with ⟨rfl, rfl⟩ | ⟨g, cap, cur, rfl, _, hg, hnc, hcm, hcs, htake⟩
  · by_cases hm : m = 0
    · subst hm
      have h4 := h2.2
      rcases h4 with ⟨rfl, _⟩ | ⟨g', cap', cur', rfl, _, _, _⟩
      · exact .inl rfl
      · have hr2 : (Builtin.append_ #[t, t] ty #[.slice none 0 0, .slice (some a) 0 c]).run P w = .ok (.slice none 0 0) w := by
          simp [Builtin.append_, run_underlying ht, sizeOf, typeInfo, hi, Builtin.lenOf, Builtin.firstCells, loadCells, loadCellsFrom]
        rw [hr2] at hr
        simp at hr
    · have hr2 := run_append_nil (P := P) w t ty e i z ht hi hz a m c news hl1 hnews (by omega) (by omega) (by have hb := hbb; rw [Nat.zero_add] at hb; omega)
      rw [hr2] at hr
      simp only [Result.ok.injEq] at hr
      exact .inr (by rw [← hr.1]; rfl)
  · by_cases hroom : n + m ≤ cap
    · have hr2 := run_append_room (P := P) w t ty e i ht hi g n cap cur hg a m c news hl1 hnews h1 hroom (by rw [hsize]; omega)
      rw [hr2] at hr
      simp only [Result.ok.injEq] at hr
      exact .inl (by rw [← hr.1]; rfl)
    · have holds : ∀ j u, xs[j]? = some u → w.cell? ((⟨g, 0, none⟩ : Addr).add j) = some u := hown.cells (g := g) rfl
      have hr2 := run_append_grow (P := P) w t ty e i z ht hi hz ⟨g, 0, none⟩ n cap xs (by rw [hsize]; exact hown.1) holds a m c news hl1 hnews (by omega) (by omega) (growslice_fits (by omega) hbb)
      rw [hr2] at hr
      simp only [Result.ok.injEq] at hr
      exact .inr (by rw [← hr.1]; rfl)

end

/-- a row more in a table of the call's own -/
theorem rows_push {W : World} {B : Nat} {v : Value} {xs : List Value} {u : Value} (ho : W.ownsRow B 43 1 v xs.length xs) (hB : B ≤ W.heap.size) (hu : u.oneCell' = true) (hx : xs.length ≤ 1000) :
    ∃ v' w', (∀ ty, (Builtin.append_ #[50, 50] ty #[v, .slice (some ⟨W.heap.size, 0, none⟩) 1 1]).run Try.prog (W.alloc (.cells #[u] 43)) = .ok v' w') ∧
      w'.ownsRow B 43 1 v' (xs ++ [u]).length (xs ++ [u]) ∧ (W.alloc (.cells #[u] 43)).grownBy w' v.ownBlock ∧ (v'.ownBlock = v.ownBlock ∨ v'.ownBlock = some (W.heap.size + 1)) := by
  have hb := (Below.refl W.heap.size W).alloc (Nat.le_refl _) (.cells #[u] 43)
  have ho' := ownsRow_below ho hb
  have hz : (W.alloc (.cells #[u] 43)).heap.size = W.heap.size + 1 := by simp
  obtain ⟨i, hi, hz0, hz1, hz2⟩ := info_parts infoRow
  have hcell : ∀ j x, [u][j]? = some x → (W.alloc (.cells #[u] 43)).cell? ((⟨W.heap.size, 0, none⟩ : Addr).add j) = some x := fun j x hj => by
    rw [Addr.add_at, Nat.zero_add, cell_of_row _ _ _ _ _ _ (alloc1 W (.cells #[u] 43))]
    simpa using hj
  obtain ⟨v2, w2, r, o, g, hat⟩ := append_own_by (P := Try.prog) (w := W.alloc (.cells #[u] 43)) B 50 0 43 i (.slice none 0 0) Try.underlying50 hi hz0 hz1 rfl _ xs.length xs ho' (by omega) ⟨W.heap.size, 0, none⟩ 1 1 [u] rfl hcell (fun x hx => by simp at hx; subst hx; exact hu) (by omega) (by rw [hz2]; omega)
  rw [hz] at hat
  exact ⟨v2, w2, fun ty => r, by rw [List.length_append]; exact o, g, hat⟩

set_option maxHeartbeats 3200000 in
theorem rnew_no {w : World} {sa : Option Addr} {n sc : Nat} {S : List (Nat × Nat)} (h : SetAt w sa n sc S) (t k m : Int) (hg : goodB t S k m = false) :
    Calls Try.prog 10 #[setV t sa n sc k m] w fun e w' => e = .returned (.pointer none) ∧ Below w.heap.size w w' := by
  have hb0 := (Below.refl w.heap.size w).alloc (Nat.le_refl _) (setO t sa n sc k m)
  have hw1 := alloc1 w (setO t sa n sc k m)
  obtain ⟨c0, c1, c2, c3⟩ := setO_cell hw1
  have K := rgood_any (h.below hb0) t k m
  rw [hg] at K
  have HB := Lib.hid hb0
  clear hb0 hg h hw1
  unfold setV
  unfold setO at K HB c0 c1 c2 c3
  go_enter Try.func10, Try.ntmps10
  go_wp2_with fail
  refine K.mono ?_
  rintro e w' ⟨rfl, hb⟩
  have HB2 := Lib.hid (HB.out.trans (hb.mono HB.out.size))
  clear hb HB K c0 c1 c2 c3
  go_wp2_with fail
  go_ret
  exact ⟨rfl, HB2.out⟩

/-- a new sketch of the reference while its table grows -/
structure NwR (w W : World) (p sb sc t : Nat) (S : List (Nat × Nat)) (j : Nat) (v : Value) : Prop where
  head : W.heap[p]? = some (.cells #[.int .i64 t, .slice (some ⟨sb, 0, none⟩) S.length sc, v] 67 (0, 0))
  seeds : SeedsIn W ⟨sb, 0, none⟩ S
  slen : S.length ≤ sc
  smax : sc ≤ maxLen
  row : W.ownsRow w.heap.size 43 1 v j (nilRows j)
  hp : w.heap.size ≤ p
  hs : w.heap.size ≤ sb
  np : v.ownBlock ≠ some p
  ns : v.ownBlock ≠ some sb
  ps : p ≠ sb
  s0 : 1 ≤ S.length
  base : Below w.heap.size w W
theorem nilRows_next (j : Nat) : nilRows j ++ [.slice none 0 0] = nilRows (j + 1) := by
  unfold nilRows
  rw [List.replicate_succ']
theorem NwR.push {w W : World} {p sb sc t : Nat} {S : List (Nat × Nat)} {j : Nat} {v : Value} (h : NwR w W p sb sc t S j v) (hj : j ≤ 7) :
    ∃ a c w', (∀ ty, (Builtin.append_ #[50, 50] ty #[v, .slice (some ⟨W.heap.size, 0, none⟩) 1 1]).run Try.prog (W.alloc (.cells #[.slice none 0 0] 43)) = .ok (.slice a (j + 1) c) w') ∧
      w'.cell? ⟨p, 2, none⟩ = some v ∧ w'.frozen? ⟨p, 2, none⟩ = false ∧ NwR w (w'.setCell ⟨p, 2, none⟩ (.slice a (j + 1) c)) p sb sc t S (j + 1) (.slice a (j + 1) c) := by
  have hl : (nilRows j).length = j := by simp [nilRows]
  have hrow := h.row
  rw [← hl] at hrow
  conv at hrow => rhs; rw [hl]
  obtain ⟨v', w', hr, ho, hg, hat⟩ := rows_push hrow h.base.size (u := .slice none 0 0) rfl (by omega)
  rw [nilRows_next, show (nilRows (j + 1)).length = j + 1 by simp [nilRows]] at ho
  obtain ⟨a, c, rfl, _, _⟩ := ownsRow_form ho
  have hpl := lt_of_heap h.head
  have hsl : sb < W.heap.size := seeds_lt h.seeds h.s0
  have hz : (W.alloc (.cells #[.slice none 0 0] 43)).heap.size = W.heap.size + 1 := by simp
  have hold : ∀ k, k < W.heap.size → v.ownBlock ≠ some k → w'.heap[k]? = W.heap[k]? := fun k hk hne => (hg.block k (by omega) (fun e => hne e.symm)).trans (Below.heap_alloc _ _ _ hk)
  have hhead : w'.heap[p]? = some (.cells #[.int .i64 t, .slice (some ⟨sb, 0, none⟩) S.length sc, v] 67 (0, 0)) := (hold p hpl h.np).trans h.head
  have hbase : Below w.heap.size w w' := (h.base.trans (((Below.refl W.heap.size W).alloc (Nat.le_refl _) (.cells #[.slice none 0 0] 43)).mono h.base.size)).grown hg (by have := h.base.size; omega) (fun k hk => (h.row.lt k hk).1)
  have hnb : ∀ x, (Value.slice a (j + 1) c).ownBlock = some x → v.ownBlock = some x ∨ x = W.heap.size + 1 := fun x hx => by
    rcases hat with e | e
    · exact .inl (e ▸ hx)
    · rw [e] at hx
      exact .inr (Option.some.inj hx).symm
  have hnp : (Value.slice a (j + 1) c).ownBlock ≠ some p := fun e => by
    rcases hnb p e with e | e
    · exact h.np e
    · omega
  have hns : (Value.slice a (j + 1) c).ownBlock ≠ some sb := fun e => by
    rcases hnb sb e with e | e
    · exact h.ns e
    · omega
  have hset : ∀ k, k ≠ p → (w'.setCell ⟨p, 2, none⟩ (.slice a (j + 1) c)).heap[k]? = w'.heap[k]? := fun k hk => Below.heap_setCell _ _ _ _ hk
  refine ⟨a, c, w', hr, ?_, ?_, {
    head := by rw [heap_set hhead]; rfl
    seeds := h.seeds.keep ((hset sb h.ps.symm).trans (hold sb hsl h.ns))
    slen := h.slen
    smax := h.smax
    row := ownsRow_of_block ho fun x hx => hset x (fun e => hnp (e ▸ hx))
    hp := h.hp
    hs := h.hs
    np := hnp
    ns := hns
    ps := h.ps
    s0 := h.s0
    base := hbase.setCell h.hp _ }⟩
  · rw [cell_of_row _ _ _ _ _ _ hhead]; rfl
  · exact free_of_row hhead 2
/-- all rows are there -/
theorem NwR.sk {w W : World} {p sb sc t : Nat} {S : List (Nat × Nat)} {v : Value} (h : NwR w W p sb sc t S S.length v) (hg : GoodS t S) (T : Tags) (i : Nat) : ∃ T', Next T w T' ∧ RSk p (SkV.empty t S) T' i W := by
  have h1 := h.s0
  rcases h.row.2 with ⟨_, e⟩ | ⟨cb, cap, cur, rfl, hcb, hcur, hnc, hcm, hcs, htk⟩
  · omega
  · have hcp : cb ≠ p := fun e => h.np (by rw [← e]; rfl)
    have hcs' : cb ≠ sb := fun e => h.ns (by rw [← e]; rfl)
    have hL : (SkV.empty t S).L.length = S.length := by simp [SkV.empty]
    have hat : ∀ (j : Nat) v, j < S.length → cur[j]? = some v → v = .slice none 0 0 := fun j v hj hv => by
      have h2 := congrArg (fun l => l[j]?) htk
      simp only [Nat.mul_one, List.getElem?_take, hj, if_true, Array.getElem?_toList] at h2
      rw [hv, nilRows, List.getElem?_replicate, if_pos hj] at h2
      exact Option.some.inj h2
    refine ⟨fun k => if k < w.heap.size then T k else if k = cb then some i else none, fun k hk => if_pos hk, ⟨sb, 0, none⟩, sc, cb, cap, cur, {
      head := by rw [hL]; exact h.head
      tp := by simp [Nat.not_lt.2 h.hp, hcp.symm]
      seeds := h.seeds
      ts := by simp [Nat.not_lt.2 h.hs, hcs'.symm]
      slen := h.slen
      smax := h.smax
      tab := hcur
      tc := by simp [Nat.not_lt.2 hcb]
      lc := by rw [hL]; exact hnc
      cmax := hcm
      rlen := by rw [hL, hcs]; omega
      row := fun j v l hv hl => ?_
      tr := fun j v g hj hv hx => ?_
      good := SkV.empty_good hg }⟩
    · have hj : j < S.length := by rw [← hL]; exact (List.getElem?_eq_some_iff.1 hl).1
      rw [hat j v hj hv]
      have e : l = [] := by
        rw [SkV.empty, List.getElem?_replicate, if_pos hj] at hl
        exact (Option.some.inj hl).symm
      subst e
      exact World.ownsRow_nil _ _ _ _
    · rw [hat j v (by rw [← hL]; exact hj) hv] at hx
      simp [Value.ownBlock] at hx

set_option maxHeartbeats 6400000 in
theorem rnew_yes {w : World} {sa : Option Addr} {n sc : Nat} {S : List (Nat × Nat)} (h : SetAt w sa n sc S) (t : Nat) (k m : Int) (hg : goodB t S k m = true) :
    Calls Try.prog 10 #[setV t sa n sc k m] w fun e w' => ∃ p sb sc v, e = .returned (.pointer (some ⟨p, 0, none⟩)) ∧ NwR w w' p sb sc t S n v := by
  obtain ⟨tn, htn, hset⟩ := goodB_set hg
  obtain rfl : t = tn := by omega
  clear htn
  have hn := h.len
  have hn1 := hset.n1
  have hn7 := hset.n7
  obtain ⟨ad, rfl, hsd⟩ := h.at_ (by omega)
  have hb0 := (Below.refl w.heap.size w).alloc (Nat.le_refl _) (setO t (some ad) n sc k m)
  have hw1 := alloc1 w (setO t (some ad) n sc k m)
  have K := rgood_any (h.below hb0) t k m
  rw [hg] at K
  have HBX := Lib.hid (setO_cell hw1)
  obtain ⟨c0, c1, c2, c3⟩ := setO_cell hw1
  have HB := Lib.hid hb0
  have HAPP := Lib.hid (fun W (hb : Below w.heap.size w W) => seeds_app (w := W) (c := sc) (hsd.keep (hb.block _ (seeds_lt hsd hn1))) hn1 (by omega))
  have HN := Lib.hid hn
  have hcm := h.cap
  clear hb0 hg h hw1 hsd hset
  unfold setV
  unfold setO at K HB HBX c0 c1 c2 c3
  go_enter Try.func10, Try.ntmps10
  go_wp2_with fail
  refine K.mono ?_
  rintro e w1 ⟨rfl, hb⟩
  have HB1 := Lib.hid (HB.out.trans (hb.mono HB.out.size))
  have hlt : w.heap.size < w1.heap.size := Nat.lt_of_lt_of_le (by simp) hb.size
  have hBx : BoxS w.heap.size t (some ad) n sc k m w1 := BoxS.below HBX.out hb
  obtain ⟨g, cg, w2, hrun, hg1, hg2, hg3, hg4, hg5, hg6⟩ := HAPP.out w1.drew HB1.out.drew
  rw [HN.out] at hrun hg3
  have HRUN : Hid (∀ ty, (Builtin.append_ #[22, 22] ty #[.slice (some ⟨w1.heap.size, 0, none⟩) 0 0, .slice (some ad) n sc]).run Try.prog (w1.alloc (.cells #[] 65)).drew = .ok (.slice (some ⟨g, 0, none⟩) n cg) w2) := Lib.hid hrun
  have HS1 : Hid (w1.drew.cell? ⟨w.heap.size, 0, none⟩ = some (.int .i64 t) ∧ w1.drew.cell? ⟨w.heap.size, 1, none⟩ = some (.slice (some ad) n sc)) := Lib.hid ⟨hBx.1, hBx.2.1⟩
  have hb5 := (Below.refl w1.heap.size w1).alloc (Nat.le_refl _) (.cells #[] 65)
  have HS2 : Hid ((w1.alloc (.cells #[] 65)).drew.cell? ⟨w.heap.size, 0, none⟩ = some (.int .i64 t) ∧ (w1.alloc (.cells #[] 65)).drew.cell? ⟨w.heap.size, 1, none⟩ = some (.slice (some ad) n sc)) := Lib.hid (by
    have h2 := (hBx.below hb5)
    exact ⟨h2.1, h2.2.1⟩)
  have h3 := BoxS.below (W := w1.drew) hBx hg6
  have HS3 : Hid (w2.cell? ⟨w.heap.size, 0, none⟩ = some (.int .i64 t) ∧ w2.cell? ⟨w.heap.size, 1, none⟩ = some (.slice (some ad) n sc)) := Lib.hid ⟨h3.1, h3.2.1⟩
  have HB3 := Lib.hid (HB1.out.drew.trans (hg6.mono HB1.out.size))
  have HG := Lib.hid (And.intro hg1 (And.intro hg2 (And.intro hg3 (And.intro hg4 hg5))))
  clear hb HB K HBX c0 c1 c2 c3 HAPP hrun hg1 hg2 hg3 hg4 hg5 hg6 hb5 h3
  go_wp2_with fail
  refine wp_region_sched (fun W => W.cell? ⟨w.heap.size, 0, none⟩ = some (.int .i64 t) ∧ W.cell? ⟨w.heap.size, 1, none⟩ = some (.slice (some ad) n sc)) 8 [0, 1, 3, 4] [2, 5, 6, 7, 8] (by kernel_rfl) (by decide +kernel) HS1.out ?_
  iterate 4
    refine wpFirst_cons (v := ?_) rfl rfl ?_ ?_
    rotate_left
    · (intro W hW; (try dsimp only at hW); go_simp) <;> with_reducible rfl
    simp only [Act.put, List.setIfInBounds_toArray]
  refine wpFirst_nil ?_
  refine wpRest_cons rfl ?_
  intro K hK
  go_wp2_with fail
  refine hK.out _ _ (fun _ => HS2.out) ?_
  clear hK K HS1 HS2
  refine wpRest_cons rfl ?_
  intro K hK
  refine wpList_append_run rfl _ _ 22 rfl rfl rfl (HRUN.out _) ?_
  refine hK.out _ _ (fun _ => HS3.out) ?_
  clear hK K HRUN
  refine wpRest_cons rfl ?_
  intro K hK
  go_wp2_with fail
  refine hK.out _ _ (fun _ => HS3.out) ?_
  clear hK K
  refine wpRest_cons rfl ?_
  intro K hK
  go_wp2_with fail
  have hb6 := (Below.refl w2.heap.size w2).alloc (Nat.le_refl _) (.cells #[.int .i64 t, .slice (some ⟨g, 0, none⟩) n cg, .slice none 0 0] 67)
  have HS4 : Hid ((w2.alloc (.cells #[.int .i64 t, .slice (some ⟨g, 0, none⟩) n cg, .slice none 0 0] 67)).cell? ⟨w.heap.size, 0, none⟩ = some (.int .i64 t) ∧ (w2.alloc (.cells #[.int .i64 t, .slice (some ⟨g, 0, none⟩) n cg, .slice none 0 0] 67)).cell? ⟨w.heap.size, 1, none⟩ = some (.slice (some ad) n sc)) := Lib.hid (by
    obtain ⟨e0, e1⟩ := HS3.out
    exact ⟨by rw [hb6.cell (World.block_lt_of_cell? _ _ e0)]; exact e0, by rw [hb6.cell (World.block_lt_of_cell? _ _ e1)]; exact e1⟩)
  have HNW : Hid (NwR w (w2.alloc (.cells #[.int .i64 t, .slice (some ⟨g, 0, none⟩) n cg, .slice none 0 0] 67)) w2.heap.size g cg t S 0 (.slice none 0 0)) := Lib.hid (by
    obtain ⟨hg1, hg2, hg3, hg4, hg5⟩ := HG.out
    have hz : w1.drew.heap.size = w1.heap.size := rfl
    exact {
      head := by rw [HN.out]; exact heap_alloc_new w2 _
      seeds := hg5.keep (hb6.block g hg2)
      slen := by rw [HN.out]; exact hg3
      smax := hg4
      row := World.ownsRow_nil _ _ _ _
      hp := HB3.out.size
      hs := by have := HB1.out.size; omega
      np := by simp [Value.ownBlock]
      ns := by simp [Value.ownBlock]
      ps := by omega
      s0 := hn1
      base := HB3.out.trans (hb6.mono HB3.out.size) })
  refine hK.out _ _ (fun _ => HS4.out) ?_
  clear hK K hb6
  refine wpRest_cons rfl ?_
  intro K hK
  go_wp2_with fail
  refine hK.out _ _ (fun h => absurd rfl h) ?_
  clear hK K
  refine wpRest_nil ?_
  obtain ⟨WN, hWN⟩ : ∃ WN, WN = (w2.alloc (.cells #[.int .i64 t, .slice (some ⟨g, 0, none⟩) n cg, .slice none 0 0] 67)) := ⟨_, rfl⟩
  rw [← hWN] at HS4 HNW ⊢
  clear hWN
  obtain ⟨c0, c1⟩ := HS4.out
  generalize w2.heap.size = p at *
  go_wp2_with fail
  clear c0 c1 HS4
  have hn7' : n ≤ 7 := by have := HN.out; omega
  go_loopw [18] (fun j wr => ∃ q : Nat, j = .int .i64 q ∧ q ≤ n ∧ Hid (∃ v, NwR w wr p g cg t S q v)) (fun j _ => n - (intOf j).toNat)
  case atStart => exact ⟨0, rfl, Nat.zero_le _, _, HNW.out⟩
  case round =>
    obtain ⟨q, rfl, hq, HR⟩ := hrel
    by_cases hlt : q < n
    · obtain ⟨v, hv⟩ := HR.out
      have c2 : wr.cell? ⟨p, 2, none⟩ = some v := by rw [cell_of_row _ _ _ _ _ _ hv.head]; rfl
      obtain ⟨a, c, w', hr, e2, f2, hnx⟩ := hv.push (by omega)
      have HP : Hid (∃ v, NwR w (w'.setCell ⟨p, 2, none⟩ (.slice a (q + 1) c)) p g cg t S (q + 1) v) := Lib.hid ⟨_, hnx⟩
      have HRN := Lib.hid hr
      clear hr hnx hv HR
      go_wp2_with (at_builtin; refine wpList_append_run rfl _ _ 50 rfl rfl rfl (HRN.out _) ?_)
      go_roundw
      case rel => exact ⟨q + 1, by go_num, by omega, HP⟩
      case measure => simp [intOf]; omega
    · have hqe : q = n := by omega
      have HP : Hid (∃ v, NwR w wr p g cg t S n v) := by rw [← hqe]; exact HR
      clear HR hqe
      go_wp2_with fail
      go_ret
      obtain ⟨v, hv⟩ := HP.out
      exact ⟨p, g, cg, v, rfl, hv⟩

/-- New of the reference: a thing of its own -/
theorem rnew_any {w : World} {sa : Option Addr} {n sc : Nat} {S : List (Nat × Nat)} (h : SetAt w sa n sc S) (t : Nat) (k m : Int) (hg : goodB t S k m = true) (T : Tags) (i : Nat) :
    Calls Try.prog 10 #[setV t sa n sc k m] w fun e w' => ∃ p, e = .returned (.pointer (some ⟨p, 0, none⟩)) ∧ Below w.heap.size w w' ∧ ∃ T', Next T w T' ∧ RSk p (SkV.empty t S) T' i w' := by
  obtain ⟨tn, htn, hset⟩ := goodB_set hg
  obtain rfl : t = tn := by omega
  refine (rnew_yes h t k m hg).mono ?_
  rintro e w' ⟨p, sb, sc', v, rfl, hN⟩
  rw [← h.len] at hN
  exact ⟨p, rfl, hN.base, hN.sk hset T i⟩
end Go.Proofs.Ytadlfmdliinnnaa
