/- The texts RqIns RqMerge DigCopy, one behind the other; each one's own comment says what it holds. -/
import Derived.Test.YtahaoodklfmddaaDigestActsRowGP
import Derived.Test.YtahaoodklfmddaaDigestActsRowGM
import Derived.Test.YtahaoodklfmddaaDigestActsRowGL
import Derived.Test.YtahaoodklfmddaaDigFew
import Derived.Test.YtahaoodklfmddaaShelf
import Derived.Shelf.SlMaps.Clone
/- The document's digest: Insert. Conditions: a digest that was made. -/
set_option maxRecDepth 100000
namespace Go.Proofs.Ytahaoodklfmddaa
open Go.RowKit Go.Maps Go.Sort Go.Shelf

theorem RqAt.setN {T : Tags} {i : Nat} {w : World} {p k : Nat} {n : Int} {v : Value} {L : DL} (h : RqAt T i w p k n v L) (m : Int) : RqAt T i (w.setCell ⟨p, 2, none⟩ (.int .i64 m)) p k m v L :=
  ⟨heap_set h.head _, h.tp, h.row.of_block fun g hg => Below.heap_setCell _ ⟨p, 2, none⟩ _ g (by
    intro e
    have e2 : g = p := by first | exact e | exact e.symm
    exact h.ne (by rw [hg, e2])), h.tb⟩
theorem goes_setN {T : Tags} {i : Nat} {w w1 : World} {p k : Nat} {n : Int} {L : DL} (h : Goes T i w (Rd p k n L) w1) (m : Int) : Goes T i w (Rd p k m L) (w1.setCell ⟨p, 2, none⟩ (.int .i64 m)) := by
  obtain ⟨T1, n1, e1, v1, hd⟩ := h
  refine ⟨T1, n1, e1.setCell ?_ _, v1, hd.setN m⟩
  by_cases hp : p < w.heap.size
  · exact .inl (by rw [← n1 p hp]; exact hd.tp)
  · exact .inr (by show w.heap.size ≤ p; omega)
theorem goes_fit {T : Tags} {i : Nat} {w w1 w2 : World} {p k n : Nat} {L : DL} (h : Goes T i w (Rd p k (n : Int) L) w1) (hw : Below w1.heap.size w1 w2) (hk1 : 1 ≤ k) (hk : k ≤ 64) (hI : LInv n L) (hn : n ≤ 1125899906842624) :
    Calls Try.prog 27 #[.pointer (some ⟨p, 0, none⟩)] w2 (RFitP T i w p k n L) := by
  obtain ⟨T1, n1, e1, v1, hd⟩ := h
  refine (rqcompress_at (hd.below hw) hk1 hk hI hn).mono ?_
  rintro e w3 ⟨he, L', a, b, c⟩
  exact ⟨he, L', a, b, Lib.hid (Goes.after n1 (e1.low hw) c.out)⟩
theorem goes_add {T : Tags} {i : Nat} {w w1 w2 : World} {p k : Nat} {n : Int} {L : DL} (h : Goes T i w (Rd p k n L) w1) (hw : Below w1.heap.size w1 w2) (x : Nat × Int) (hl : L.length ≤ 100000) (hI : ∀ q ∈ L, InI (q.2 + x.2)) (hpos : ∀ q ∈ L, 1 ≤ q.2) :
    Calls Try.prog 26 #[.pointer (some ⟨p, 0, none⟩), nodeV x] w2 fun e w3 => e = .returned (.tuple #[]) ∧ Hid (Goes T i w (Rd p k n (addR x.1 x.2 L)) w3) := by
  obtain ⟨T1, n1, e1, v1, hd⟩ := h
  refine (rqadd_at (hd.below hw) x hl hI hpos).mono ?_
  rintro e w3 ⟨he, hg⟩
  exact ⟨he, Lib.hid (Goes.after n1 (e1.low hw) hg.out)⟩
theorem goes_cells {T : Tags} {i : Nat} {w w1 : World} {p k : Nat} {n : Int} {L : DL} (h : Goes T i w (Rd p k n L) w1) : w1.cell? ⟨p, 2, none⟩ = some (.int .i64 n) ∧ w1.frozen? ⟨p, 2, none⟩ = false := by
  obtain ⟨T1, n1, e1, v1, hd⟩ := h
  exact ⟨hd.cells.2.2.1, hd.cells.2.2.2 2⟩
theorem node_form (x : Nat) (hx : x < 18446744073709551616) (y : Int) : nodeV (x, y) = .agg #[.int .i64 0, .int .u64 (x : Int), .int .i64 y] := by
  unfold nodeV
  rw [show ((x, y) : Nat × Int).1 / 18446744073709551616 = 0 by show x / 18446744073709551616 = 0; omega, show ((x, y) : Nat × Int).1 % 18446744073709551616 = x from Nat.mod_eq_of_lt hx]
  rfl
set_option maxHeartbeats 3200000 in
theorem rqins_at {T : Tags} {i : Nat} {w : World} {p k n : Nat} {v : Value} {L : DL} (h : RqAt T i w p k n v L) (hk1 : 1 ≤ k) (hk : k ≤ 64) (hI : LInv n L) (hn : n < 1125899906842624) (hl : L.length < 100000) {x : Nat} (hx : x < 18446744073709551616) :
    Calls Try.prog 10 #[.pointer (some ⟨p, 0, none⟩), .int .u64 (x : Int)] w (RFitP T i w p k (n + 1) (putD x (dcnt L x + 1) L)) := by
  obtain ⟨c0, c1, c2, _⟩ := h.cells
  have hI2 := hI.ins hx hl
  have hcn := dcnt_nonneg hI.inv.pos x
  have hA := addR_put hI.inv.asc hI.inv.pos (c := x) (y := 1) (by omega)
  have K := goes_add (Goes.start (A := Rd p k n L) ⟨_, h⟩) (below_drewN w 0) (x, 1) (by omega) (fun q hq => by have := rqnode_le hI.inv hq; unfold InI; show -9223372036854775808 ≤ q.2 + 1 ∧ q.2 + 1 ≤ 9223372036854775807; omega) hI.inv.pos
  rw [node_form x hx, hA] at K
  have K1 : Calls Try.prog 26 #[.pointer (some ⟨p, 0, none⟩), .agg #[.int .i64 0, .int .u64 (x : Int), .int .i64 1]] w fun e w3 => e = .returned (.tuple #[]) ∧ Hid (Goes T i w (Rd p k n (putD x (dcnt L x + 1) L)) w3) := K
  have HI := Lib.hid (And.intro hk1 (And.intro hk (And.intro hI2 hn)))
  have t0 : decide ((1125899906842624 : Int) ≤ (n : Int)) = false := decide_eq_false (by omega)
  have wn : IntKind.i64.wrap ((n : Int) + 1) = ((n + 1 : Nat) : Int) := by rw [IntKind.wrap_i64]; omega
  obtain ⟨n1, hn1⟩ : ∃ n1 : Int, ((n + 1 : Nat) : Int) = n1 := ⟨_, rfl⟩
  rw [hn1] at wn
  have HN1 := Lib.hid hn1
  clear h hk1 hk hI hn hl hx hI2 hcn hA K c0 c1 hn1
  go_enter Try.func10, Try.ntmps10
  go_wp2_with fail
  refine K1.mono ?_
  rintro e w1 ⟨rfl, HG⟩
  clear K1 c2
  obtain ⟨c2, z2⟩ := goes_cells HG.out
  have HS := Lib.hid (goes_setN HG.out n1)
  have HF : Hid (Calls Try.prog 27 #[.pointer (some ⟨p, 0, none⟩)] (w1.setCell ⟨p, 2, none⟩ (.int .i64 n1)) (RFitP T i w p k (n + 1) (putD x (dcnt L x + 1) L))) := Lib.hid (by
    have := HS.out
    rw [← HN1.out] at this ⊢
    exact goes_fit this (Below.refl _ _) HI.out.1 HI.out.2.1 HI.out.2.2.1 (by have := HI.out.2.2.2; omega))
  clear HG HS
  go_wp2_with fail
  refine HF.out.mono ?_
  rintro e w2 h
  have he := h.1
  subst he
  have H2 := Lib.hid h
  clear h HF
  go_wp2_with fail
  go_end0
  exact H2.out
theorem rqins_full {w : World} {p x : Nat} {n : Int} (c2 : w.cell? ⟨p, 2, none⟩ = some (.int .i64 n)) (hn : 1125899906842624 ≤ n) :
    Calls Try.prog 10 #[.pointer (some ⟨p, 0, none⟩), .int .u64 (x : Int)] w fun e w' => e = .returned (.tuple #[]) ∧ w = w' := by
  have t0 : decide ((1125899906842624 : Int) ≤ n) = true := decide_eq_true hn
  clear hn
  go_enter Try.func10, Try.ntmps10
  go_wp2_with fail
  refine bodyPost_ret (results_none rfl _ _ _) rfl ?_
  exact ⟨rfl, rfl⟩
theorem ins_full {w : World} {p x k : Nat} (hk : 1 ≤ k) (c0 : w.cell? ⟨p, 0, none⟩ = some (.int .i64 k)) (c1 : w.cell? ⟨p, 1, none⟩ = some (.int .i64 1125899906842624)) :
    Calls Try.prog 9 #[.pointer (some ⟨p, 0, none⟩), .int .u64 (x : Int)] w fun e w' => e = .returned (.tuple #[]) ∧ w = w' := by
  have KM := made_at hk c0
  clear hk c0
  go_enter Try.func9, Try.ntmps9
  go_wp2_with fail
  refine KM.mono ?_
  rintro e w' ⟨rfl, rfl⟩
  clear KM
  go_wp2_with fail
  refine bodyPost_ret (results_none rfl _ _ _) rfl ?_
  exact ⟨rfl, rfl⟩
end Go.Proofs.Ytahaoodklfmddaa
/- The document's digest: Merge. Conditions: digests that were made, of one k. -/
set_option maxRecDepth 100000
namespace Go.Proofs.Ytahaoodklfmddaa
open Go.RowKit Go.Maps Go.Sort Go.Shelf

set_option maxHeartbeats 8000000 in
theorem rqmerge_at {T : Tags} {i j : Nat} {w : World} {p q k n m : Nat} {v v2 : Value} {L N : DL} (h : RqAt T i w p k n v L) (h2 : RqAt T j w q k m v2 N) (hij : j ≠ i)
    (hk1 : 1 ≤ k) (hk : k ≤ 64) (hI : LInv n L) (hJ : LInv m N) (hn : n + m ≤ 1125899906842624) (hl : L.length + N.length ≤ 100000) :
    Calls Try.prog 12 #[.pointer (some ⟨p, 0, none⟩), .pointer (some ⟨q, 0, none⟩)] w fun e w' => e = .returned (.int .i64 0) ∧ RFitP T i w p k (n + m) (addAll L N) (.returned (.tuple #[])) w' := by
  obtain ⟨c0, c1, c2, _⟩ := h.cells
  obtain ⟨o0, o1, o2, _⟩ := h2.cells
  obtain ⟨a2, cap2, rfl, _⟩ := h2.row.form
  have hs : ¬ (1125899906842624 : Int) - (n : Int) < (m : Int) := by omega
  have t0 : decide ((1125899906842624 : Int) - (n : Int) < (m : Int)) = false := decide_eq_false hs
  have ws : IntKind.i64.wrap ((1125899906842624 : Int) - (n : Int)) = (1125899906842624 : Int) - (n : Int) := by rw [IntKind.wrap_i64]; omega
  have hwq : T q ≠ some i := fun e => by rw [h2.tp] at e; injection e with e; exact hij e
  have hqh := h2.head
  have HC := Lib.hid fun z => copyQ (W := w.drewN z) (h2.row.below (below_drewN w z)) (by omega)
  have HH := Lib.hid h
  have HQ := Lib.hid (And.intro hwq hqh)
  have HIJ := Lib.hid (And.intro hI hJ)
  have HNL := Lib.hid (And.intro hn hl)
  have HK := Lib.hid (And.intro hk1 hk)
  clear h h2 hI hJ hn hl hk1 hk hwq hqh hij
  go_enter Try.func12, Try.ntmps12
  go_wp2_with fail
  go_quiet (fail)
  go_wp2_with fail
  obtain ⟨z1, rfl⟩ : ∃ z, z = nq := ⟨_, rfl⟩
  go_quiet (fail)
  obtain ⟨z2, hz2⟩ : ∃ z2, z1 + nq = z2 := ⟨_, rfl⟩
  have hbD : Below w.heap.size w (w.drewN z2) := below_drewN w z2
  have o1x : ((w.drewN (z1 + nq)).alloc (.cells #[] 69)).cell? ⟨q, 1, none⟩ = some (.slice a2 N.length cap2) := by rw [hz2, (hbD.alloc (Nat.le_refl _) _).cell (World.block_lt_of_cell? w _ o1)]; exact o1
  obtain ⟨gs, ks, w3, hrun, hq⟩ := HC.out (z1 + nq)
  have hB3 : Below w.heap.size w w3 := by
    have := hq.out.2
    rw [hz2] at this
    exact hbD.trans this
  have hgw : w.heap.size ≤ gs := (hq.out.1.lt gs rfl).1
  have hg3 : gs < w3.heap.size := (hq.out.1.lt gs rfl).2
  obtain ⟨T2, hT2⟩ : ∃ T2 : Tags, T2 = fun x => if x < w.heap.size then T x else none := ⟨_, rfl⟩
  have G0 : Hid (Goes T2 i w3 (Rd p k n L) w3) := Lib.hid (by
    have hdr := HH.out.rebase
    rw [← hT2] at hdr
    exact Goes.start (Framed.below (Rd.framed p k n L) ⟨_, hdr⟩ hB3))
  have HTG : Hid (T2 gs ≠ some i) := Lib.hid fun e => by
    rw [hT2] at e
    simp only at e
    rw [if_neg (by omega)] at e
    cases e
  have HTQ : Hid (T2 q ≠ some i ∧ w3.heap[q]? = some (.cells #[.int .i64 k, .slice a2 N.length cap2, .int .i64 m] 41 (0, 0))) := Lib.hid ⟨fun e => by
    rw [hT2] at e
    simp only at e
    rw [if_pos (lt_of_heap HQ.out.2)] at e
    exact HQ.out.1 e, (hB3.block q (lt_of_heap HQ.out.2)).trans HQ.out.2⟩
  have HCH : Hid (∀ (A : Thing) (wz : World), Goes T2 i w3 A wz → Goes T i w A wz) := Lib.hid fun A wz hz => by
    refine Goes.after (T1 := T2) (fun x hx => ?_) (Else.of_below hB3) hz
    rw [hT2]
    simp only
    rw [if_pos hx]
  have HR := Lib.hid hq.out.1
  have HG3 := Lib.hid hg3
  clear HC hB3 hgw hg3 hT2 hq hbD c0 c1 c2 o0 o1 o2 ws HH HQ hz2
  go_wp2_with (at_builtin; refine wpList_append_run rfl _ _ 39 rfl rfl rfl (hrun.out _) ?_)
  clear o1x hrun hs t0
  go_loopw [37] (fun s wr => ∃ j : Nat, s = .int .i64 j ∧ j ≤ N.length ∧ Hid (Goes T2 i w3 (Rd p k n (addAll L (N.take j))) wr)) (fun s _ => N.length - (intOf s).toNat)
  case atStart => exact ⟨0, rfl, Nat.zero_le _, Lib.hid (by have := G0.out; simpa [addAll] using this)⟩
  case round =>
    clear G0
    obtain ⟨j, rfl, hj, HS⟩ := hrel
    by_cases hlt : j < N.length
    · have hz : (j : Int) < (N.length : Int) := by omega
      obtain ⟨y, hy⟩ : ∃ y, N[j]? = some y := ⟨_, List.getElem?_eq_getElem hlt⟩
      obtain ⟨gs', ks', hv, hgl, _, r0, r1, r2⟩ := HR.out.cell hy
      obtain ⟨rfl, rfl⟩ : gs = gs' ∧ ks = ks' := by injection hv with h1 _ h2; injection h1 with h1; injection h1 with h1; exact ⟨h1, h2⟩
      have hgk : wr.heap[gs]? = w3.heap[gs]? := by
        obtain ⟨T3, n3, e3, _⟩ := HS.out
        exact e3.block gs hgl HTG.out
      have x0 : wr.cell? ⟨gs, j * 3, none⟩ = some (.int .i64 ((y.1 / 18446744073709551616 : Nat) : Int)) := by rw [World.cell?_of_block hgk]; exact r0
      have x1 : wr.cell? ⟨gs, j * 3 + 1, none⟩ = some (.int .u64 ((y.1 % 18446744073709551616 : Nat) : Int)) := by rw [World.cell?_of_block hgk]; exact r1
      have x2 : wr.cell? ⟨gs, j * 3 + 2, none⟩ = some (.int .i64 y.2) := by rw [World.cell?_of_block hgk]; exact r2
      have hym : y ∈ N := List.mem_of_getElem? hy
      have hA0 := addAll_asc (N.take j) L HIJ.out.1.inv.asc
      have hP0 := addAll_pos (N.take j) L HIJ.out.1.inv.pos (fun q hq => HIJ.out.2.inv.pos q (List.mem_of_mem_take hq))
      have hyp := rqnode_le HIJ.out.2.inv hym
      have hin : ∀ q ∈ addAll L (N.take j), InI (q.2 + y.2) := fun q hq => by
        have hle := addAll_le L (N.take j) HIJ.out.1.inv.asc HIJ.out.1.inv.pos (fun q hq => HIJ.out.2.inv.pos q (List.mem_of_mem_take hq)) q.1
        rw [dcnt_mem hA0 (id := q.1) (c := q.2) hq] at hle
        have ht1 := total_take HIJ.out.2 j
        have hsum1 : total L = n := HIJ.out.1.inv.sum
        have := hP0 q hq
        have := HNL.out.1
        unfold InI
        omega
      have hln : (addAll L (N.take j)).length ≤ 100000 := by have := addAll_len (N.take j) L; rw [List.length_take] at this; have := HNL.out.2; omega
      obtain ⟨X, hX⟩ : ∃ X, wr.alloc (.cells #[.int .i64 ((y.1 / 18446744073709551616 : Nat) : Int), .int .u64 ((y.1 % 18446744073709551616 : Nat) : Int), .int .i64 y.2] 69) = X := ⟨_, rfl⟩
      have hbX : Below wr.heap.size wr X := by rw [← hX]; exact (Below.refl _ wr).alloc (Nat.le_refl _) _
      obtain ⟨G, hG⟩ : ∃ G, wr.heap.size = G := ⟨_, rfl⟩
      have hxX : X.heap[G]? = some (.cells #[.int .i64 ((y.1 / 18446744073709551616 : Nat) : Int), .int .u64 ((y.1 % 18446744073709551616 : Nat) : Int), .int .i64 y.2] 69 (0, 0)) := by rw [← hX, ← hG]; exact heap_alloc_new _ _
      have f0 : X.cell? ⟨G, 0, none⟩ = some (.int .i64 ((y.1 / 18446744073709551616 : Nat) : Int)) := by rw [cell_of_row _ _ _ _ _ _ hxX]; rfl
      have f1 : X.cell? ⟨G, 1, none⟩ = some (.int .u64 ((y.1 % 18446744073709551616 : Nat) : Int)) := by rw [cell_of_row _ _ _ _ _ _ hxX]; rfl
      have f2 : X.cell? ⟨G, 2, none⟩ = some (.int .i64 y.2) := by rw [cell_of_row _ _ _ _ _ _ hxX]; rfl
      have KA := goes_add HS.out hbX y hln hin hP0
      have hput := addR_put hA0 hP0 (c := y.1) (y := y.2) (by have := dcnt_nonneg hP0 y.1; omega)
      rw [hput, ← addAll_snoc, ← take_more hy] at KA
      have hw64 : IntKind.i64.wrap ((j : Int) + 1) = (j : Int) + 1 := by have := HNL.out.2; rw [IntKind.wrap_i64]; omega
      unfold nodeV at KA
      obtain ⟨lv, hlv⟩ : ∃ lv : Int, ((y.1 / 18446744073709551616 : Nat) : Int) = lv := ⟨_, rfl⟩
      obtain ⟨pr, hpr⟩ : ∃ pr : Int, ((y.1 % 18446744073709551616 : Nat) : Int) = pr := ⟨_, rfl⟩
      obtain ⟨cn, hcn⟩ : ∃ cn : Int, y.2 = cn := ⟨_, rfl⟩
      rw [hlv, hpr, hcn] at KA hX
      rw [hlv] at x0 f0
      rw [hpr] at x1 f1
      rw [hcn] at x2 f2
      clear hy hv hgl r0 r1 r2 hgk hym hA0 hP0 hyp hin hln hlv hpr hcn hbX hxX hput HS
      go_wp2_with fail
      refine KA.mono ?_
      rintro e w5 ⟨rfl, HG5⟩
      clear KA f0 f1 f2 x0 x1 x2
      go_wp2_with fail
      go_roundw
      case rel => exact ⟨j + 1, rfl, hlt, HG5⟩
      case measure => simp [intOf]; omega
    · obtain rfl : j = N.length := by omega
      obtain ⟨c2, z2'⟩ := goes_cells HS.out
      have o2 : wr.cell? ⟨q, 2, none⟩ = some (.int .i64 m) := by
        obtain ⟨T3, n3, e3, _⟩ := HS.out
        have := (e3.block q (lt_of_heap HTQ.out.2) HTQ.out.1).trans HTQ.out.2
        rw [cell_of_row _ _ _ _ _ _ this]
        rfl
      have wn : IntKind.i64.wrap ((n : Int) + (m : Int)) = (n : Int) + (m : Int) := by have := HNL.out.1; rw [IntKind.wrap_i64]; omega
      have HF : Hid (Calls Try.prog 27 #[.pointer (some ⟨p, 0, none⟩)] (wr.drew.setCell ⟨p, 2, none⟩ (.int .i64 ((n : Int) + (m : Int)))) (RFitP T i w p k (n + m) (addAll L N))) := Lib.hid (by
        have hg := HS.out
        rw [List.take_length] at hg
        have := goes_setN (hg.below (Rd.framed p k n (addAll L N)) (below_drew1 wr)) ((n : Int) + (m : Int))
        exact goes_fit (n := n + m) (HCH.out _ _ this) (Below.refl _ _) HK.out.1 HK.out.2 (HIJ.out.1.addAll HIJ.out.2 HNL.out.2) HNL.out.1)
      clear HS
      go_wp2_with fail
      refine wp_region_mix (fun V => V.cell? ⟨p, 2, none⟩ = some (.int .i64 n) ∧ V.cell? ⟨q, 2, none⟩ = some (.int .i64 m)) 12 [(true, 0), (true, 1), (true, 2), (true, 3), (true, 4), (true, 5), (true, 6), (true, 7), (true, 8), (true, 9), (true, 10), (true, 11), (false, 12)] (by kernel_rfl) (by decide +kernel) rfl (by decide +kernel) ⟨c2, o2⟩ ?_
      iterate 12
        refine wpMix_take (v := ?_) rfl rfl ?_ ?_
        rotate_left
        · (intro W hW; (try dsimp only at hW); go_simp) <;> with_reducible rfl
        simp only [Act.put, List.setIfInBounds_toArray, List.set_cons_zero, List.set_cons_succ]
      refine wpMix_run rfl ?_
      intro K hK
      go_wp2_with fail
      refine hK.out _ _ (fun h => absurd rfl h) ?_
      clear hK K
      refine wpMix_nil ?_
      clear c2 o2
      go_wp2_with fail
      refine HF.out.mono ?_
      rintro e w6 h
      have he := h.1
      subst he
      have H2 := Lib.hid h
      clear h HF
      go_wp2_with fail
      go_ret
      exact ⟨rfl, H2.out⟩
/-- too many: neither is changed -/
theorem rqmerge_full {w : World} {p q k : Nat} {n m : Int} (c0 : w.cell? ⟨p, 0, none⟩ = some (.int .i64 k)) (c2 : w.cell? ⟨p, 2, none⟩ = some (.int .i64 n)) (o0 : w.cell? ⟨q, 0, none⟩ = some (.int .i64 k)) (o2 : w.cell? ⟨q, 2, none⟩ = some (.int .i64 m))
    (hn0 : 0 ≤ n) (hn1 : n ≤ 1125899906842624) (hm : 1125899906842624 - n < m) :
    Calls Try.prog 12 #[.pointer (some ⟨p, 0, none⟩), .pointer (some ⟨q, 0, none⟩)] w fun e w' => e = .returned (.int .i64 7) ∧ Below w.heap.size w w' := by
  have t0 : decide ((1125899906842624 : Int) - n < m) = true := decide_eq_true hm
  have ws : IntKind.i64.wrap ((1125899906842624 : Int) - n) = (1125899906842624 : Int) - n := by rw [IntKind.wrap_i64]; omega
  clear hn0 hn1
  go_enter Try.func12, Try.ntmps12
  go_wp2_with fail
  go_quiet (fail)
  go_wp2_with fail
  obtain ⟨z1, rfl⟩ : ∃ z, z = nq := ⟨_, rfl⟩
  go_quiet (fail)
  go_wp2_with fail
  go_ret
  exact ⟨rfl, ⟨rfl, rfl, rfl, Nat.le_refl _, fun _ _ => rfl⟩⟩
theorem merge_full {w : World} {p q k : Nat} {n m : Int} (hk : 1 ≤ k) (c0 : w.cell? ⟨p, 0, none⟩ = some (.int .i64 k)) (c1 : w.cell? ⟨p, 1, none⟩ = some (.int .i64 n)) (o0 : w.cell? ⟨q, 0, none⟩ = some (.int .i64 k)) (o1 : w.cell? ⟨q, 1, none⟩ = some (.int .i64 m))
    (hn0 : 0 ≤ n) (hn1 : n ≤ 1125899906842624) (hm : 1125899906842624 - n < m) :
    Calls Try.prog 11 #[.pointer (some ⟨p, 0, none⟩), .pointer (some ⟨q, 0, none⟩)] w fun e w' => e = .returned (.int .i64 7) ∧ Below w.heap.size w w' := by
  have t0 : decide ((1125899906842624 : Int) - n < m) = true := decide_eq_true hm
  have ws : IntKind.i64.wrap ((1125899906842624 : Int) - n) = (1125899906842624 : Int) - n := by rw [IntKind.wrap_i64]; omega
  have KM := made_at hk c0
  have KO := Lib.hid (fun n => made_at (w := w.drewN n) hk o0)
  clear hn0 hn1 hk
  go_enter Try.func11, Try.ntmps11
  go_wp2_with fail
  refine KM.mono ?_
  rintro e w' ⟨rfl, rfl⟩
  clear KM
  go_wp2_with fail
  go_quiet ((exact Calls.quiet_of_same ((KO.out _).mono fun _ _ ⟨h, hw⟩ => ⟨h, hw.symm⟩)))
  go_wp2_with fail
  obtain ⟨z1, rfl⟩ : ∃ z, z = nq := ⟨_, rfl⟩
  go_quiet (fail)
  go_wp2_with fail
  go_ret
  exact ⟨rfl, ⟨rfl, rfl, rfl, Nat.le_refl _, fun _ _ => rfl⟩⟩
end Go.Proofs.Ytahaoodklfmddaa
/- Contract of digest's Copy. Conditions: a digest that was made. -/
set_option maxRecDepth 100000
namespace Go.Proofs.Ytahaoodklfmddaa
open Go.RowKit Go.Maps Go.Sort Go.Shelf

theorem clone_places {w : World} {b : Nat} {L : DL} (hM : PAt w b L) :
    Calls Try.prog 29 #[.map (some b)] w fun e w' => e = .returned (.map (some w.heap.size)) ∧ PAt w' w.heap.size L ∧ Below w.heap.size w w' := by
  refine (AnyW.maps_Clone_owns Try.clonePlaces 67 (plainElem Try.prog 3) b L.length (mapP L) w hM.own).mono ?_
  rintro e w' ⟨rfl, h1, _, h2⟩
  exact ⟨rfl, ⟨hM.asc, hM.inI, h1⟩, h2⟩

set_option maxHeartbeats 3200000 in
theorem dcopy_any {T : Tags} {i j : Nat} {w : World} {p : Nat} {V : DV} (h : Dk p V T i w) :
    Calls Try.prog 14 #[.pointer (some ⟨p, 0, none⟩)] w fun e w' => ∃ q, e = .returned (.pointer (some ⟨q, 0, none⟩)) ∧ Below w.heap.size w w' ∧ ∃ T', Next T w T' ∧ Dk q V T' j w' := by
  obtain ⟨b, h, hG⟩ := h
  obtain ⟨c0, c1, c2, _⟩ := h.cells
  have KM := made_at hG.k1 c0
  have KC := clone_places (h.map.of_block (w' := w.drew) rfl)
  have SC := Lib.hid fun W (hb : Below w.heap.size w W) => (show W.cell? ⟨p, 0, none⟩ = some (.int .i64 V.k) ∧ W.cell? ⟨p, 1, none⟩ = some (.int .i64 V.n) ∧ W.cell? ⟨p, 2, none⟩ = some (.map (some b)) from by
    have e : ∀ {x u}, w.cell? x = some u → W.cell? x = some u := fun {x u} hx => by rw [hb.cell (World.block_lt_of_cell? w _ hx)]; exact hx
    exact ⟨e c0, e c1, e c2⟩)
  have HG := Lib.hid hG
  clear h hG
  go_enter Try.func14, Try.ntmps14
  go_wp2_with fail
  refine KM.mono ?_
  rintro e w' ⟨rfl, rfl⟩
  clear KM
  go_wp2_with fail
  refine wp_region_mix (fun W => W.cell? ⟨p, 0, none⟩ = some (.int .i64 V.k) ∧ W.cell? ⟨p, 1, none⟩ = some (.int .i64 V.n) ∧ W.cell? ⟨p, 2, none⟩ = some (.map (some b))) 16 [(true, 0), (true, 1), (true, 2), (true, 3), (true, 4), (true, 5), (true, 6), (true, 7), (true, 8), (true, 9), (true, 10), (true, 11), (false, 12), (false, 13), (false, 14), (false, 15)] (by kernel_rfl) (by decide +kernel) rfl (by decide +kernel) ⟨c0, c1, c2⟩ ?_
  iterate 12
    refine wpMix_take (v := ?_) rfl rfl ?_ ?_
    rotate_left
    · (intro W hW; (try dsimp only at hW); go_simp) <;> with_reducible rfl
    simp only [Act.put, List.setIfInBounds_toArray, List.set_cons_zero, List.set_cons_succ]
  refine wpMix_run rfl ?_
  intro K hK
  go_wp2_with fail
  refine KC.mono ?_
  rintro e w1 ⟨rfl, hM, hb⟩
  have hb1 : Below w.heap.size w w1 := (below_drew1 w).trans hb
  go_wp2_with fail
  refine hK.out _ _ (fun _ => SC.out _ hb1) ?_
  clear hK K KC
  refine wpMix_run rfl ?_
  intro K hK
  go_wp2_with fail
  refine hK.out _ _ (fun _ => SC.out _ hb1) ?_
  clear hK K
  have hb2 : Below w.heap.size w (w1.alloc (.cells #[.int .i64 V.k, .int .i64 V.n, .map (some w.heap.size)] 62)) := hb1.alloc hb1.size _
  refine wpMix_run rfl ?_
  intro K hK
  go_wp2_with fail
  refine hK.out _ _ (fun _ => SC.out _ hb2) ?_
  clear hK K
  refine wpMix_run rfl ?_
  intro K hK
  go_wp2_with fail
  refine hK.out _ _ (fun _ => SC.out _ hb2) ?_
  clear hK K
  refine wpMix_nil ?_
  have FIN : Hid (∃ q, (Ending.returned (.pointer (some ⟨w1.heap.size, 0, none⟩)) : Ending) = .returned (.pointer (some ⟨q, 0, none⟩)) ∧ Below w.heap.size w (w1.alloc (.cells #[.int .i64 V.k, .int .i64 V.n, .map (some w.heap.size)] 62)) ∧
      ∃ T', Next T w T' ∧ Dk q V T' j (w1.alloc (.cells #[.int .i64 V.k, .int .i64 V.n, .map (some w.heap.size)] 62))) := Lib.hid
    ⟨_, rfl, hb2, T.one w.heap.size (some j), T.one_next w _, w.heap.size, ⟨heap_alloc_new w1 _, by unfold Tags.one; rw [if_neg (by have := hb1.size; omega)], hM.of_block (heap_alloc_old w1 _ hM.lt), by unfold Tags.one; rw [if_neg (by omega)]⟩, HG.out⟩
  clear hM hb hb1 hb2 SC c0 c1 c2
  go_wp2_with fail
  go_ret
  exact FIN.out

end Go.Proofs.Ytahaoodklfmddaa
