/- The texts ColI ColJ, one behind the other; each one's own comment says what it holds. -/
import Derived.Test.YtcpfkinjglnabaaPackAX
import Derived.Laws.EntriesVeiled
/- The shortest encoding, and Bytes. Conditions: none. -/
set_option maxRecDepth 100000
namespace Go.Proofs.Ytcpfkinjglnabaa
open Go.RowKit Go.Maps Go.Sort

def idsU (l : List Int) : List UInt64 := l.map idU
/-- the encodings' bytes, their numbers ahead -/
def bA (l : List Int) : List UInt8 := 0 :: encA (idsU l)
def bB (l : List Int) : List UInt8 := 1 :: encB (idsU l)
def bC (l : List Int) : List UInt8 := 2 :: deltaL 0 l
def best2 (l : List Int) : List UInt8 := if (bB l).length < (bA l).length then bB l else bA l
def shortL (l : List Int) : List UInt8 := if (bC l).length < (best2 l).length then bC l else best2 l
def bestAt (l : List Int) : Nat → List UInt8
  | 0 => []
  | 1 => bA l
  | 2 => best2 l
  | _ => shortL l
def fnsV (G B : Nat) : Value := .agg #[.func (.func 94) #[] #[.pointer (some ⟨G, 0, none⟩)], .func (.func 96) #[] #[.pointer (some ⟨G, 0, none⟩)], .func (.func 98) #[] #[.pointer (some ⟨B, 0, none⟩)]]
theorem box1c {w wr : World} {x : Value} {t : TypeId} (hb : Below (w.heap.size + 1) (w.alloc (.cells #[x] t)) wr) : wr.cell? ⟨w.heap.size, 0, none⟩ = some x := by
  have h : wr.heap[w.heap.size]? = some (.cells #[x] t (0, 0)) := (hb.block _ (by omega)).trans (heap_alloc_new w _)
  rw [cell_of_row wr _ _ _ _ _ h]; rfl
theorem set3 {w : World} {S : Nat} {t : TypeId} {x0 x1 x2 y0 y1 y2 : Value} (h : w.heap[S]? = some (.cells #[x0, x1, x2] t (0, 0))) :
    (w.cell? ⟨S, 0, none⟩ = some x0 ∧ w.cell? ⟨S, 1, none⟩ = some x1 ∧ w.cell? ⟨S, 2, none⟩ = some x2 ∧ w.frozen? ⟨S, 0, none⟩ = false ∧ w.frozen? ⟨S, 1, none⟩ = false ∧ w.frozen? ⟨S, 2, none⟩ = false) ∧
    ((((w.setCell ⟨S, 0, none⟩ y0).setCell ⟨S, 1, none⟩ y1).setCell ⟨S, 2, none⟩ y2).cell? ⟨S, 0, none⟩ = some y0 ∧ (((w.setCell ⟨S, 0, none⟩ y0).setCell ⟨S, 1, none⟩ y1).setCell ⟨S, 2, none⟩ y2).cell? ⟨S, 1, none⟩ = some y1 ∧ (((w.setCell ⟨S, 0, none⟩ y0).setCell ⟨S, 1, none⟩ y1).setCell ⟨S, 2, none⟩ y2).cell? ⟨S, 2, none⟩ = some y2) ∧
    Below S w (((w.setCell ⟨S, 0, none⟩ y0).setCell ⟨S, 1, none⟩ y1).setCell ⟨S, 2, none⟩ y2) ∧ ∀ k, k ≠ S → (((w.setCell ⟨S, 0, none⟩ y0).setCell ⟨S, 1, none⟩ y1).setCell ⟨S, 2, none⟩ y2).heap[k]? = w.heap[k]? := by
  have q := heap_set (j := 2) (heap_set (j := 1) (heap_set (j := 0) h y0) y1) y2
  refine ⟨⟨?_, ?_, ?_, free_of_row h 0, free_of_row h 1, free_of_row h 2⟩, ⟨?_, ?_, ?_⟩, (vset_below (Nat.le_refl _) _).trans ((vset_below (Nat.le_refl _) _).trans (vset_below (Nat.le_refl _) _)), fun k hk => ?_⟩
  · rw [cell_of_row _ _ _ _ _ _ h]; rfl
  · rw [cell_of_row _ _ _ _ _ _ h]; rfl
  · rw [cell_of_row _ _ _ _ _ _ h]; rfl
  · rw [cell_of_row _ _ _ _ _ _ q]; rfl
  · rw [cell_of_row _ _ _ _ _ _ q]; rfl
  · rw [cell_of_row _ _ _ _ _ _ q]; rfl
  · rw [vset_other hk, vset_other hk, vset_other hk]
theorem Holds.of_blocks {w w' : World} {a : Option Addr} {n k S : Nat} {xs : List Value} (h : Holds w (.slice a n k) xs) (hne : ∀ ad, a = some ad → ∀ j, (ad.add j).block = ad.block) (h2 : ∀ ad, a = some ad → 0 < n → ad.block ≠ S) (hk : ∀ k, k ≠ S → w'.heap[k]? = w.heap[k]?) : Holds w' (.slice a n k) xs := by
  obtain ⟨a', c', e, hl, hc⟩ := h
  simp only [Value.slice.injEq] at e
  obtain ⟨rfl, rfl, rfl⟩ := e
  refine ⟨a, k, rfl, hl, ?_⟩
  rcases hc with hc | ⟨ad, rfl, hj⟩
  · exact .inl hc
  · refine .inr ⟨ad, rfl, fun j u hju => ?_⟩
    rw [← hj j u hju]
    refine World.cell?_of_block (w := w) (hk _ ?_)
    rw [hne ad rfl j]
    exact h2 ad rfl (by have := (List.getElem?_eq_some_iff.1 hju).1; omega)
/-- the world behind encodings -/
theorem enc_world {w W w1 X : World} {a : Option Addr} {n k : Nat} {l : List UInt64} {y0 y1 y2 : Value} (hs : W.heap.size = w.heap.size + 2) (hb0 : Below w.heap.size w W) (q1 : W.heap[w.heap.size]? = some (.cells #[.slice a n k] 25 (0, 0)))
    (q2 : W.heap[w.heap.size + 1]? = some (.cells #[.nilFunc, .nilFunc, .nilFunc] 140 (0, 0))) (hb : Below W.heap.size W w1) (hu : Holds w1 (.slice (some ⟨W.heap.size, 0, none⟩) n n) (u64s l)) (hX : w1.alloc (.cells #[.slice (some ⟨W.heap.size, 0, none⟩) n n] 118) = X) :
    (X.cell? ⟨w.heap.size + 1, 0, none⟩ = some .nilFunc ∧ X.cell? ⟨w.heap.size + 1, 1, none⟩ = some .nilFunc ∧ X.cell? ⟨w.heap.size + 1, 2, none⟩ = some .nilFunc ∧ X.frozen? ⟨w.heap.size + 1, 0, none⟩ = false ∧ X.frozen? ⟨w.heap.size + 1, 1, none⟩ = false ∧ X.frozen? ⟨w.heap.size + 1, 2, none⟩ = false) ∧
    ((((X.setCell ⟨w.heap.size + 1, 0, none⟩ y0).setCell ⟨w.heap.size + 1, 1, none⟩ y1).setCell ⟨w.heap.size + 1, 2, none⟩ y2).cell? ⟨w.heap.size + 1, 0, none⟩ = some y0 ∧ (((X.setCell ⟨w.heap.size + 1, 0, none⟩ y0).setCell ⟨w.heap.size + 1, 1, none⟩ y1).setCell ⟨w.heap.size + 1, 2, none⟩ y2).cell? ⟨w.heap.size + 1, 1, none⟩ = some y1 ∧
      (((X.setCell ⟨w.heap.size + 1, 0, none⟩ y0).setCell ⟨w.heap.size + 1, 1, none⟩ y1).setCell ⟨w.heap.size + 1, 2, none⟩ y2).cell? ⟨w.heap.size + 1, 2, none⟩ = some y2) ∧
    Hid ((((X.setCell ⟨w.heap.size + 1, 0, none⟩ y0).setCell ⟨w.heap.size + 1, 1, none⟩ y1).setCell ⟨w.heap.size + 1, 2, none⟩ y2).cell? ⟨w1.heap.size, 0, none⟩ = some (.slice (some ⟨W.heap.size, 0, none⟩) n n) ∧
      Holds (((X.setCell ⟨w.heap.size + 1, 0, none⟩ y0).setCell ⟨w.heap.size + 1, 1, none⟩ y1).setCell ⟨w.heap.size + 1, 2, none⟩ y2) (.slice (some ⟨W.heap.size, 0, none⟩) n n) (u64s l) ∧
      (((X.setCell ⟨w.heap.size + 1, 0, none⟩ y0).setCell ⟨w.heap.size + 1, 1, none⟩ y1).setCell ⟨w.heap.size + 1, 2, none⟩ y2).cell? ⟨w.heap.size, 0, none⟩ = some (.slice a n k) ∧
      Below w.heap.size w (((X.setCell ⟨w.heap.size + 1, 0, none⟩ y0).setCell ⟨w.heap.size + 1, 1, none⟩ y1).setCell ⟨w.heap.size + 1, 2, none⟩ y2)) := by
  have hbx := below_box w1 (.cells #[.slice (some ⟨W.heap.size, 0, none⟩) n n] 118)
  have q5 := heap_alloc_new w1 (.cells #[.slice (some ⟨W.heap.size, 0, none⟩) n n] 118)
  rw [hX] at hbx q5
  have hsz := hb.size
  have hsx := hbx.size
  have q3 : X.heap[w.heap.size + 1]? = some (.cells #[.nilFunc, .nilFunc, .nilFunc] 140 (0, 0)) := (hbx.block _ (by omega)).trans ((hb.block _ (by omega)).trans q2)
  have q4 : X.heap[w.heap.size]? = some (.cells #[.slice a n k] 25 (0, 0)) := (hbx.block _ (by omega)).trans ((hb.block _ (by omega)).trans q1)
  obtain ⟨s1, s2, s3, s4⟩ := set3 (y0 := y0) (y1 := y1) (y2 := y2) q3
  refine ⟨s1, s2, Lib.hid ⟨?_, ?_, ?_, ?_⟩⟩
  · rw [cell_of_row _ _ _ _ _ _ ((s4 _ (by omega)).trans q5)]; rfl
  · exact (hu.below hbx).of_blocks (S := w.heap.size + 1) (fun ad _ j => Addr.add_block ad j) (fun ad e _ => by cases e; show W.heap.size ≠ _; omega) s4
  · rw [cell_of_row _ _ _ _ _ _ ((s4 _ (by omega)).trans q4)]; rfl
  · exact (hb0.trans (hb.mono (by omega))).trans ((hbx.mono (by omega)).trans (s3.mono (by omega)))
set_option maxHeartbeats 800000 in
theorem encodings_any {w : World} {a : Option Addr} {n k : Nat} {l : List Int} (h : Holds w (.slice a n k) (i64s l)) (hl : l.length ≤ 1000) :
    Calls Try.prog 75 #[.slice a n k] w fun e w' => ∃ G B ua uk, e = .returned (fnsV G B) ∧ Hid (w'.cell? ⟨G, 0, none⟩ = some (.slice ua n uk) ∧ Holds w' (.slice ua n uk) (u64s (idsU l)) ∧ w'.cell? ⟨B, 0, none⟩ = some (.slice a n k) ∧ Below w.heap.size w w') := by
  have e1 := h.len.1
  rw [i64s_len] at e1
  obtain ⟨W, hW⟩ : ∃ W, (w.alloc (.cells #[.slice a n k] 25)).alloc (.cells #[.nilFunc, .nilFunc, .nilFunc] 140) = W := ⟨_, rfl⟩
  obtain ⟨_, q1, q2⟩ := two_boxes w (.cells #[.slice a n k] 25) (.cells #[.nilFunc, .nilFunc, .nilFunc] 140)
  have hs : W.heap.size = w.heap.size + 2 := by rw [← hW]; simp
  have hb0 : Below w.heap.size w W := by rw [← hW]; exact ((Below.refl _ _).alloc (Nat.le_refl _) _).alloc (by simp) _
  rw [hW] at q1 q2
  have KU := unsigned_any (h.below hb0) (by omega)
  rw [map_id] at KU
  unfold OutF at KU
  have hul : (u64s (l.map idU)).length = n := by rw [u64s_len, List.length_map]; exact e1
  rw [hul] at KU
  have c0 : W.cell? ⟨w.heap.size, 0, none⟩ = some (.slice a n k) := by rw [cell_of_row _ _ _ _ _ _ q1]; rfl
  have HE := Lib.hid (fun (w1 X : World) (y0 y1 y2 : Value) => @enc_world w W w1 X a n k (l.map idU) y0 y1 y2 hs hb0 q1 q2)
  clear h hl e1 q1 q2 hs hb0 hul
  go_enter Try.func75, Try.ntmps75
  go_wp2_with fail
  clear hW
  refine KU.mono ?_
  rintro e w1 ⟨rfl, hu, hb⟩
  obtain ⟨X, hX⟩ : ∃ X, w1.alloc (.cells #[.slice (some ⟨W.heap.size, 0, none⟩) n n] 118) = X := ⟨_, rfl⟩
  obtain ⟨⟨c3, c4, c5, c6, c7, c8⟩, ⟨r0, r1, r2⟩, HF⟩ := HE.out w1 X (.func (.func 94) #[] #[.pointer (some ⟨w1.heap.size, 0, none⟩)]) (.func (.func 96) #[] #[.pointer (some ⟨w1.heap.size, 0, none⟩)]) (.func (.func 98) #[] #[.pointer (some ⟨w.heap.size, 0, none⟩)]) hb hu hX
  clear KU HE hu hb
  go_wp2_with fail
  refine bodyPost_ret (v := fnsV w1.heap.size w.heap.size) ?_ rfl ⟨_, _, _, _, rfl, HF⟩
  simp [results, Try.results75, go_sem, r0, r1, r2, fnsV]
end Go.Proofs.Ytcpfkinjglnabaa
/- The shortest encoding. Conditions: none. -/
set_option maxRecDepth 100000
namespace Go.Proofs.Ytcpfkinjglnabaa
open Go.RowKit Go.Maps Go.Sort

theorem best_pos (l : List Int) (m : Nat) (hm : 0 < m) : 0 < (bestAt l m).length := by
  have a : 0 < (bA l).length := by simp [bA]
  have b : 0 < (bB l).length := by simp [bB]
  have c : 0 < (bC l).length := by simp [bC]
  have d : 0 < (best2 l).length := by unfold best2; split <;> assumption
  have e : 0 < (shortL l).length := by unfold shortL; split <;> assumption
  rcases m with _ | _ | _ | m
  · omega
  · exact a
  · exact d
  · exact e
theorem encs_len (l : List Int) (hl : l.length ≤ 1000) : (encA (idsU l)).length ≤ 1000000 ∧ (encB (idsU l)).length ≤ 1000000 ∧ (deltaL 0 l).length ≤ 1000000 := by
  have h1 := packAns_len (wdU (idsU l)) (idsU l)
  have h2 : (idsU l).length = l.length := by simp [idsU]
  have h3 := runsB_len (runsOf (idsU l)) (fun p hp => by have := (runs_le (idsU l)).2 p hp; omega)
  have h4 := (runs_le (idsU l)).1
  have h5 := deltaL_len l 0
  refine ⟨?_, ?_, by omega⟩
  · simp only [encA, List.length_cons]; omega
  · have : 20 * (runsOf (idsU l)).length ≤ 20 * l.length := by omega
    unfold encB; omega
theorem app_empty (L : List UInt8) (x : UInt8) : (x :: L).length = L.length + 1 := rfl
theorem index_fns (G B : Nat) (w : World) : ((Instr.index 140 (fnsV G B) (.int .i64 0)).run Try.prog w = .ok (.func (.func 94) #[] #[.pointer (some ⟨G, 0, none⟩)]) w ∧
    (Instr.index 140 (fnsV G B) (.int .i64 1)).run Try.prog w = .ok (.func (.func 96) #[] #[.pointer (some ⟨G, 0, none⟩)]) w) ∧ (Instr.index 140 (fnsV G B) (.int .i64 2)).run Try.prog w = .ok (.func (.func 98) #[] #[.pointer (some ⟨B, 0, none⟩)]) w :=
  ⟨⟨by kernel_rfl, by kernel_rfl⟩, by kernel_rfl⟩
set_option maxHeartbeats 1600000 in
theorem shortest_any {w : World} {a : Option Addr} {n k : Nat} {l : List Int} (h : Holds w (.slice a n k) (i64s l)) (hl : l.length ≤ 1000) :
    Calls Try.prog 52 #[.slice a n k] w (OutH w (u8s (shortL l))) := by
  have KE := encodings_any h hl
  have HX := Lib.hid (fun (V : World) (hv : Below w.heap.size w V) => h.below hv)
  have HL := Lib.hid (encs_len l hl)
  have HLL := Lib.hid hl
  have w0 : IntKind.u8.wrap 0 = 0 := by rw [IntKind.wrap_u8]; omega
  have w1 : IntKind.u8.wrap 1 = 1 := by rw [IntKind.wrap_u8]; omega
  have w2 : IntKind.u8.wrap 2 = 2 := by rw [IntKind.wrap_u8]; omega
  have x0 : IntKind.i64.wrap 1 = 1 := by rw [IntKind.wrap_i64]; omega
  have x1 : IntKind.i64.wrap 2 = 2 := by rw [IntKind.wrap_i64]; omega
  have x2 : IntKind.i64.wrap 3 = 3 := by rw [IntKind.wrap_i64]; omega
  clear h hl
  go_enter Try.func52, Try.ntmps52
  go_wp2_with fail
  refine KE.mono ?_
  rintro e V1 ⟨G, B, ua, uk, rfl, HE⟩
  clear KE
  have hi0 := fun V => (index_fns G B V).1.1
  have hi1 := fun V => (index_fns G B V).1.2
  have hi2 := fun V => (index_fns G B V).2
  unfold fnsV at *
  have HB1 : Hid (Below V1.heap.size V1 V1) := Lib.hid (Below.refl _ _)
  go_wp2_with fail
  go_loopw [3, 9] (fun v s wr => ∃ (m q : Nat) (va : Option Addr) (vc : Nat), v = .slice va q vc ∧ s = .int .i64 m ∧ m ≤ 3 ∧ Hid (q = (bestAt l m).length ∧ Holds wr (.slice va q vc) (u8s (bestAt l m)) ∧ Below V1.heap.size V1 wr)) (fun _ s _ => 3 - (RowKit.intOf s).toNat)
  case atStart => exact ⟨0, 0, none, 0, rfl, rfl, by omega, Lib.hid ⟨rfl, Holds.nil _, Below.refl _ _⟩⟩
  case round =>
    obtain ⟨m, q, va, vc, rfl, rfl, hm, HS⟩ := hrel
    by_cases hlt : m < 3
    · obtain ⟨hq, hv, hb⟩ := HS.out
      have hcG : wr.cell? ⟨G, 0, none⟩ = some (.slice ua n uk) := by rw [hb.cell (World.block_lt_of_cell? V1 _ HE.out.1)]; exact HE.out.1
      have hu := HE.out.2.1.below hb
      have hcB : wr.cell? ⟨B, 0, none⟩ = some (.slice a n k) := by rw [hb.cell (World.block_lt_of_cell? V1 _ HE.out.2.2.1)]; exact HE.out.2.2.1
      have hi := HX.out wr (HE.out.2.2.2.trans (hb.mono HE.out.2.2.2.size))
      have hul : (idsU l).length ≤ 1000 := by simp only [idsU, List.length_map]; exact HLL.out
      obtain rfl | rfl | rfl : m = 0 ∨ m = 1 ∨ m = 2 := by omega
      · have hbx := below_box wr (.cells #[.int .u8 0] 5)
        have K := enc1_any (cell_more hcG (.cells #[.int .u8 0] 5)) (hu.below hbx) hul
        have hel : (u8s (encA (idsU l))).length = (encA (idsU l)).length := u8s_len _
        unfold OutH at K
        rw [hel] at K
        have HA := Lib.hid (fun (W3 : World) (sv : Value) (hb3 : Below (wr.heap.size + 1) (wr.alloc (.cells #[.int .u8 0] 5)) W3) (hs3 : Holds W3 sv (u8s (encA (idsU l)))) => @app_lit wr W3 0 0 rfl _ sv hb3 hs3 HL.out.1)
        have hbl : 0 :: encA (idsU l) = bA l := rfl
        rw [hbl] at HA
        have HB := Lib.hid hb
        have hq0 : q = 0 := hq
        subst hq0
        clear hcG hu hcB hi hul hbx hq hv hb hel hbl HS
        generalize (encA (idsU l)).length = el at *
        generalize hbq : (bA l).length = bq at *
        have HBQ := Lib.hid hbq
        clear hbq
        go_wp2_with fail
        refine K.mono ?_
        rintro e W3 ⟨ea, ek, rfl, hs3, hb3⟩
        obtain ⟨ra, rk, W4, R, HR⟩ := HA.out W3 _ (hb3.mono (by simp)) hs3
        have hh : Hid (bq = (bestAt l 1).length ∧ Holds W4 (.slice ra bq rk) (u8s (bestAt l 1)) ∧ Below V1.heap.size V1 W4) := Lib.hid ⟨HBQ.out.symm, HR.out.1, HB.out.trans (HR.out.2.mono HB.out.size)⟩
        clear K HA hs3 hb3 HR
        go_wp2_with (at_builtin; refine wpList_append_run rfl _ _ 68 rfl rfl rfl (R.out _) ?_)
        go_roundw
        case rel => exact ⟨1, bq, ra, rk, rfl, rfl, by omega, hh⟩
        case measure => simp [RowKit.intOf]
      · have hbx := below_box wr (.cells #[.int .u8 1] 5)
        have K := enc2_any (cell_more hcG (.cells #[.int .u8 1] 5)) (hu.below hbx) hul
        have hel : (u8s (encB (idsU l))).length = (encB (idsU l)).length := u8s_len _
        unfold OutH at K
        rw [hel] at K
        have HA := Lib.hid (fun (W3 : World) (sv : Value) (hb3 : Below (wr.heap.size + 1) (wr.alloc (.cells #[.int .u8 1] 5)) W3) (hs3 : Holds W3 sv (u8s (encB (idsU l)))) => @app_lit wr W3 1 1 rfl _ sv hb3 hs3 HL.out.2.1)
        have hbl : 1 :: encB (idsU l) = bB l := rfl
        rw [hbl] at HA
        have HB := Lib.hid hb
        have hqp := best_pos l 1 (by omega)
        have t0 : (q == 0) = false := by rw [beq_eq_false_iff_ne]; omega
        have t1 : ((q : Int) == 0) = false := by rw [beq_eq_false_iff_ne]; omega
        have HQ := Lib.hid hq
        have HV := Lib.hid hv
        have hnx : bestAt l 2 = if (bB l).length < (bestAt l 1).length then bB l else bestAt l 1 := rfl
        rw [← hq] at hnx
        clear hcG hu hcB hi hul hbx hq hv hb hel hbl HS hqp
        generalize (encB (idsU l)).length = el at *
        obtain ⟨bq, hbq⟩ : ∃ bq, (bB l).length = bq := ⟨_, rfl⟩
        rw [hbq] at HA hnx
        have HBQ := Lib.hid hbq
        clear hbq
        by_cases hlt2 : bq < q
        · rw [if_pos hlt2] at hnx
          have HN := Lib.hid hnx
          have t2 : decide ((bq : Int) < (q : Int)) = true := decide_eq_true (by omega)
          have t3 : decide (bq < q) = true := decide_eq_true hlt2
          clear hnx hlt2
          go_wp2_with fail
          refine K.mono ?_
          rintro e W3 ⟨ea, ek, rfl, hs3, hb3⟩
          obtain ⟨ra, rk, W4, R, HR⟩ := HA.out W3 _ (hb3.mono (by simp)) hs3
          have hh : Hid (bq = (bestAt l 2).length ∧ Holds W4 (.slice ra bq rk) (u8s (bestAt l 2)) ∧ Below V1.heap.size V1 W4) := Lib.hid (by rw [HN.out]; exact ⟨HBQ.out.symm, HR.out.1, HB.out.trans (HR.out.2.mono HB.out.size)⟩)
          clear K HA hs3 hb3 HR
          go_wp2_with (at_builtin; refine wpList_append_run rfl _ _ 68 rfl rfl rfl (R.out _) ?_)
          go_roundw
          case rel => exact ⟨2, bq, ra, rk, rfl, rfl, by omega, hh⟩
          case measure => simp [RowKit.intOf]
        · rw [if_neg hlt2] at hnx
          have HN := Lib.hid hnx
          have t2 : decide ((bq : Int) < (q : Int)) = false := decide_eq_false (by omega)
          have t3 : decide (bq < q) = false := decide_eq_false hlt2
          clear hnx hlt2
          go_wp2_with fail
          refine K.mono ?_
          rintro e W3 ⟨ea, ek, rfl, hs3, hb3⟩
          obtain ⟨ra, rk, W4, R, HR⟩ := HA.out W3 _ (hb3.mono (by simp)) hs3
          have hh : Hid (q = (bestAt l 2).length ∧ Holds W4 (.slice va q vc) (u8s (bestAt l 2)) ∧ Below V1.heap.size V1 W4) := Lib.hid (by rw [HN.out]; exact ⟨HQ.out, HV.out.below HR.out.2, HB.out.trans (HR.out.2.mono HB.out.size)⟩)
          clear K HA hs3 hb3 HR
          go_wp2_with (at_builtin; refine wpList_append_run rfl _ _ 68 rfl rfl rfl (R.out _) ?_)
          go_roundw
          case rel => exact ⟨2, q, va, vc, rfl, rfl, by omega, hh⟩
          case measure => simp [RowKit.intOf]
      · have hbx := below_box wr (.cells #[.int .u8 2] 5)
        have K := enc3_any (cell_more hcB (.cells #[.int .u8 2] 5)) (hi.below hbx) HLL.out
        have hel : (u8s (deltaL 0 l)).length = (deltaL 0 l).length := u8s_len _
        unfold OutH at K
        rw [hel] at K
        have HA := Lib.hid (fun (W3 : World) (sv : Value) (hb3 : Below (wr.heap.size + 1) (wr.alloc (.cells #[.int .u8 2] 5)) W3) (hs3 : Holds W3 sv (u8s (deltaL 0 l))) => @app_lit wr W3 2 2 rfl _ sv hb3 hs3 HL.out.2.2)
        have hbl : 2 :: deltaL 0 l = bC l := rfl
        rw [hbl] at HA
        have HB := Lib.hid hb
        have hqp := best_pos l 2 (by omega)
        have t0 : (q == 0) = false := by rw [beq_eq_false_iff_ne]; omega
        have t1 : ((q : Int) == 0) = false := by rw [beq_eq_false_iff_ne]; omega
        have HQ := Lib.hid hq
        have HV := Lib.hid hv
        have hnx : bestAt l 3 = if (bC l).length < (bestAt l 2).length then bC l else bestAt l 2 := rfl
        rw [← hq] at hnx
        clear hcG hu hcB hi hul hbx hq hv hb hel hbl HS hqp
        generalize (deltaL 0 l).length = el at *
        obtain ⟨bq, hbq⟩ : ∃ bq, (bC l).length = bq := ⟨_, rfl⟩
        rw [hbq] at HA hnx
        have HBQ := Lib.hid hbq
        clear hbq
        by_cases hlt2 : bq < q
        · rw [if_pos hlt2] at hnx
          have HN := Lib.hid hnx
          have t2 : decide ((bq : Int) < (q : Int)) = true := decide_eq_true (by omega)
          have t3 : decide (bq < q) = true := decide_eq_true hlt2
          clear hnx hlt2
          go_wp2_with fail
          refine K.mono ?_
          rintro e W3 ⟨ea, ek, rfl, hs3, hb3⟩
          obtain ⟨ra, rk, W4, R, HR⟩ := HA.out W3 _ (hb3.mono (by simp)) hs3
          have hh : Hid (bq = (bestAt l 3).length ∧ Holds W4 (.slice ra bq rk) (u8s (bestAt l 3)) ∧ Below V1.heap.size V1 W4) := Lib.hid (by rw [HN.out]; exact ⟨HBQ.out.symm, HR.out.1, HB.out.trans (HR.out.2.mono HB.out.size)⟩)
          clear K HA hs3 hb3 HR
          go_wp2_with (at_builtin; refine wpList_append_run rfl _ _ 68 rfl rfl rfl (R.out _) ?_)
          go_roundw
          case rel => exact ⟨3, bq, ra, rk, rfl, rfl, by omega, hh⟩
          case measure => simp [RowKit.intOf]
        · rw [if_neg hlt2] at hnx
          have HN := Lib.hid hnx
          have t2 : decide ((bq : Int) < (q : Int)) = false := decide_eq_false (by omega)
          have t3 : decide (bq < q) = false := decide_eq_false hlt2
          clear hnx hlt2
          go_wp2_with fail
          refine K.mono ?_
          rintro e W3 ⟨ea, ek, rfl, hs3, hb3⟩
          obtain ⟨ra, rk, W4, R, HR⟩ := HA.out W3 _ (hb3.mono (by simp)) hs3
          have hh : Hid (q = (bestAt l 3).length ∧ Holds W4 (.slice va q vc) (u8s (bestAt l 3)) ∧ Below V1.heap.size V1 W4) := Lib.hid (by rw [HN.out]; exact ⟨HQ.out, HV.out.below HR.out.2, HB.out.trans (HR.out.2.mono HB.out.size)⟩)
          clear K HA hs3 hb3 HR
          go_wp2_with (at_builtin; refine wpList_append_run rfl _ _ 68 rfl rfl rfl (R.out _) ?_)
          go_roundw
          case rel => exact ⟨3, q, va, vc, rfl, rfl, by omega, hh⟩
          case measure => simp [RowKit.intOf]
    · obtain rfl : m = 3 := by omega
      have HF : Hid (OutH w (u8s (shortL l)) (.returned (.slice va q vc)) wr) := Lib.hid (by
        obtain ⟨hq, hv, hb⟩ := HS.out
        have hq2 : (u8s (shortL l)).length = q := by rw [u8s_len]; exact hq.symm
        exact ⟨va, vc, by rw [hq2], by rw [hq2]; exact hv, HE.out.2.2.2.trans (hb.mono HE.out.2.2.2.size)⟩)
      clear HS
      go_wp2_with fail
      go_ret
      exact HF.out
end Go.Proofs.Ytcpfkinjglnabaa
