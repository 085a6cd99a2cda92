/- The texts RqFit, one behind the other; each one's own comment says what it holds. -/
import Derived.Test.YtahaoodklfmddaaDigestActsRowGG
import Derived.Test.YtahaoodklfmddaaDigestActsRowGH
import Derived.Test.YtahaoodklfmddaaDigBits
/- The document's digest: compress. Conditions: a digest that was made, few nodes. -/
set_option maxRecDepth 100000
namespace Go.Proofs.Ytahaoodklfmddaa
open Go.RowKit Go.Maps Go.Sort Go.Shelf

/-- append(make of nothing, a row ..): a row of its own -/
theorem copyQ {W : World} {B : Nat} {v : Value} {L : DL} (h : RowQ B v L W) (hl : L.length ≤ 1000000) :
    ∃ g k w', Hid (∀ ty, (Builtin.append_ #[39, 39] ty #[.slice (some ⟨W.heap.size, 0, none⟩) 0 0, v]).run Try.prog (W.alloc (.cells #[] 69)) = .ok (.slice (some ⟨g, 0, none⟩) L.length k) w') ∧
      Hid (RowQ W.heap.size (.slice (some ⟨g, 0, none⟩) L.length k) L w' ∧ Below W.heap.size W w') := by
  obtain ⟨i, hi, hz0, hz1, hz2⟩ := info_parts infoQ
  have hb1 := (Below.refl W.heap.size W).alloc (Nat.le_refl _) (.cells #[] 69)
  have hr1 := World.ownsRow_made W (base := W.heap.size) (e := 69) (size := 3) #[] 0 (Nat.le_refl _) (by unfold maxLen; omega) (by simp)
  have hs := h.below hb1
  rcases hs.2 with ⟨rfl, h0⟩ | ⟨g, c, cur, rfl, _⟩
  · obtain rfl : L = [] := List.eq_nil_of_length_eq_zero h0
    refine ⟨W.heap.size, 0, _, Lib.hid (fun ty => append_nilsrc _ _ ty _ i Try.underlying39 hi _ 0 0 0 (Nat.le_refl _)), Lib.hid ⟨?_, hb1⟩⟩
    simpa [RowQ, flatN] using hr1
  · obtain ⟨v', w', hr, h2, h3, h4, h5⟩ := run_append_own_at (P := Try.prog) (w := W.alloc (.cells #[] 69)) W.heap.size 39 0 69 i (.agg #[.int .i64 0, .int .u64 0, .int .i64 0]) 3 24 Try.underlying39 hi hz0 hz1 hz2 rfl (by omega) _ 0 [] hr1
      ⟨g, 0, none⟩ L.length c (flatN L) (flatN_len L) (hs.cells (g := g) rfl) (flatN_one L) (by unfold maxLen; omega) (by omega) hb1.size
    rw [Nat.zero_add, List.nil_append] at h2
    have h6 : RowQ W.heap.size v' L w' := h2
    have hgr : Below W.heap.size W w' := hb1.grown h3 hb1.size (fun k e => by simp [Value.ownBlock] at e; omega)
    rcases h6.2 with ⟨e, _⟩ | ⟨g', k, cur', e, _⟩
    · exact absurd (h4.1 e).1 (by simp)
    · subst e
      exact ⟨g', k, w', Lib.hid fun ty => hr, Lib.hid ⟨h6, hgr⟩⟩
theorem RqAt.rebase {T : Tags} {i : Nat} {w : World} {p k : Nat} {n : Int} {v : Value} {L : DL} (h : RqAt T i w p k n v L) : RqAt (fun x => if x < w.heap.size then T x else none) i w p k n v L :=
  ⟨h.head, by rw [if_pos (lt_of_heap h.head)]; exact h.tp, h.row, fun g hg => by rw [if_pos (h.row.lt g hg).2]; exact h.tb g hg⟩
/-- a pair whose node is gone: nothing is left to do -/
theorem rq_gone {n : Nat} {M : Int} {lv : Nat} {us : List UInt64} {g h : DL} {c : Nat} (hst : StepR M lv (PU lv us) (dcnt g) (dcnt h)) (hI : LInv n g) (hc : ∃ q ∈ g, q.1 = c) {u : UInt64} (hu : cd lv u.toNat = c) (h0 : dcnt h c = 0) : StepR M lv (PU lv (us ++ [u])) (dcnt g) (dcnt h) ∧ dcnt h (sibC c) = 0 := by
  have hl : c / 18446744073709551616 = lv := by rw [← hu]; exact low_cd
  have h1 := hst.gone hl (dcnt_has hI.inv.asc hI.inv.pos hc) h0
  exact ⟨hst.again (by rw [hu]; exact h1.1), h1.2.2⟩
/-- a lift, in three adds -/
theorem rq_lift {n : Nat} {M : Int} {lv : Nat} {us : List UInt64} {g h L1 : DL} {ch2 : Bool} {c : Nat} (hst : StepR M lv (PU lv us) (dcnt g) (dcnt h)) (hlv : lv < 64) (hO : Onto n L1 false h ch2) {u : UInt64} (hu : cd lv u.toNat = c) (h0 : ¬ dcnt h c = 0) (hm : allC h c ≤ M) :
    addR c (-dcnt h c) h = delD c h ∧ (¬ dcnt h (sibC c) = 0 → addR (sibC c) (-dcnt h (sibC c)) (delD c h) = delD (sibC c) (delD c h)) ∧ (dcnt h (sibC c) = 0 → delD (sibC c) (delD c h) = delD c h) ∧
      addR (upC c) (dcnt h c + dcnt h (sibC c)) (delD (sibC c) (delD c h)) = liftL h c ∧ Onto n L1 false (liftL h c) true ∧ StepR M lv (PU lv (us ++ [u])) (dcnt g) (dcnt (liftL h c)) := by
  have hA := hO.inv.inv.asc
  have hp := hO.inv.inv.pos
  have hl : c / 18446744073709551616 = lv := by rw [← hu]; exact low_cd
  have hex : ∃ q ∈ h, q.1 = c := Classical.byContradiction fun hn => h0 (dcnt_none fun q hq e => hn ⟨q, hq, e⟩)
  have a1 := dasc_delD hA c
  have a2 := dasc_delD a1 (sibC c)
  have p1 : ∀ q ∈ delD c h, 1 ≤ q.2 := fun q hq => hp q (mem_delD.1 hq).1
  have p2 : ∀ q ∈ delD (sibC c) (delD c h), 1 ≤ q.2 := fun q hq => p1 q (mem_delD.1 hq).1
  have hs : dcnt (delD c h) (sibC c) = dcnt h (sibC c) := by rw [dcnt_delD hA, if_neg (sib_ne c)]
  have g1 := dcnt_has hA hp hex
  have g2 := dcnt_nonneg hp (sibC c)
  refine ⟨addR_del hA hp hex (by omega), fun hn => addR_del a1 p1 (Classical.byContradiction fun hz => hn ?_) (by rw [hs]; omega), fun hz => del_none fun q hq e => ?_, ?_, ⟨?_, ?_, fun _ => .inr ?_, nofun⟩, ?_⟩
  · rw [← hs]
    exact dcnt_none fun q hq e => hz ⟨q, hq, e⟩
  · have := dcnt_has a1 p1 ⟨q, hq, e⟩
    omega
  · have g3 := dcnt_nonneg p2 (upC c)
    rw [addR_put a2 p2 (by omega)]
    exact lift_three hA hp hex
  · have := hO.inv.lift (lv := lv) (us := [u]) (fun v hv => by
      rw [List.mem_singleton] at hv
      subst hv
      rw [hu]
      obtain ⟨q, hq, e⟩ := hex
      exact ⟨e ▸ hO.inv.low q hq, .inl ⟨q, hq, e⟩⟩) hlv (List.mem_singleton.2 rfl)
    rw [hu] at this
    exact this
  · exact Int.le_trans (Int.le_of_lt ((lift_meas hA (by omega)).2 hex)) hO.le
  · exact Int.lt_of_lt_of_le ((lift_meas hA (by omega)).2 hex) hO.le
  · have := hst.lift hA (u := u) (by rw [hu, ← hst.all hl]; exact hm)
    rw [hu] at this
    exact this
theorem rqnode_le {n : Nat} {h : DL} (hI : DInv n h) {q : Nat × Int} (hq : q ∈ h) : 1 ≤ q.2 ∧ q.2 ≤ n := by
  have h1 := hI.pos q hq
  have h2 := dcnt_mem hI.asc (id := q.1) (c := q.2) hq
  have h3 := all_le hI q.1
  have h4 := dcnt_nonneg hI.pos (sibC q.1)
  have h5 := dcnt_nonneg hI.pos (upC q.1)
  unfold allC at h3
  omega
/-- what one add is told, put behind what went before -/
theorem rq_add_step {T : Tags} {i : Nat} {w w1 : World} {p k Gx : Nat} {n : Int} {g : DL} {ob : Obj} (h : Goes T i w (Rd p k n g) w1) (hT : T Gx = none) (hGx : Gx < w.heap.size) (hx : w1.heap[Gx]? = some ob) {lv pr : Nat} (hp : pr < 18446744073709551616) {a b y : Int} (ha : a = (lv : Int)) (hb : b = (pr : Int)) (hl : g.length ≤ 100000) (hI : ∀ q ∈ g, InI (q.2 + y)) (hpos : ∀ q ∈ g, 1 ≤ q.2) {w1' : World} (hw : Below w1.heap.size w1 w1') :
    Calls Try.prog 26 #[.pointer (some ⟨p, 0, none⟩), .agg #[.int .i64 a, .int .u64 b, .int .i64 y]] w1' fun e w2 => e = .returned (.tuple #[]) ∧ w2.heap[Gx]? = some ob ∧ Hid (Goes T i w (Rd p k n (addR (cd lv pr) y g)) w2) := by
  subst ha hb
  obtain ⟨T1, n1, e1, v1, hd⟩ := h
  have hd' := hd.below hw
  have e := (cd_lev (l := lv) hp)
  have hv : nodeV (cd lv pr, y) = .agg #[.int .i64 (lv : Int), .int .u64 (pr : Int), .int .i64 y] := by
    unfold nodeV
    rw [e.1, e.2]
  rw [← hv]
  refine (rqadd_at hd' (cd lv pr, y) hl hI hpos).mono ?_
  rintro e w2 ⟨he, hg⟩
  refine ⟨he, ?_, Lib.hid (Goes.after n1 (e1.low hw) hg.out)⟩
  obtain ⟨T2, n2, e2, _⟩ := hg.out
  have hlt := lt_of_heap hx
  rw [e2.block Gx (Nat.lt_of_lt_of_le hlt hw.size) (fun q => by rw [n1 Gx hGx, hT] at q; cases q), hw.block Gx hlt]
  exact hx
/-- what compress leaves -/
def RFitP (T : Tags) (i : Nat) (w : World) (p k n : Nat) (L : DL) (e : Ending) (w' : World) : Prop :=
  e = .returned (.tuple #[]) ∧ ∃ L' : DL, RFitR k n L L' ∧ LInv n L' ∧ Hid (Goes T i w (Rd p k n L') w')

set_option maxHeartbeats 12800000 in
theorem rqcompress_at {T : Tags} {i : Nat} {w : World} {p k n : Nat} {v : Value} {L : DL} (h : RqAt T i w p k n v L) (hk1 : 1 ≤ k) (hk : k ≤ 64) (hI : LInv n L) (hn : n ≤ 1125899906842624) :
    Calls Try.prog 27 #[.pointer (some ⟨p, 0, none⟩)] w (RFitP T i w p k n L) := by
  obtain ⟨c0, c1, c2, _⟩ := h.cells
  obtain ⟨a, cap, rfl, _⟩ := h.row.form
  have w3k : IntKind.i64.wrap (3 * (k : Int)) = 3 * (k : Int) := by rw [IntKind.wrap_i64]; omega
  have w3l : IntKind.i64.wrap (3 * (k : Int) + 64) = 3 * (k : Int) + 64 := by rw [IntKind.wrap_i64]; omega
  by_cases hl : L.length ≤ 3 * k + 64
  · have t0 : decide ((L.length : Int) ≤ 3 * (k : Int) + 64) = true := decide_eq_true (by omega)
    have HF : Hid (∀ z, RFitP T i w p k n L (.returned (.tuple #[])) (w.drewN z)) := Lib.hid fun z => ⟨rfl, L, ⟨fun _ => rfl, fun h2 => absurd hl (by omega)⟩, hI, Lib.hid ((Goes.start (A := Rd p k n L) ⟨_, h⟩).below (Rd.framed p k n L) (below_drewN w z))⟩
    clear h hI hl hk hk1 hn
    go_enter Try.func27, Try.ntmps27
    go_wp2_with fail
    go_quiet (fail)
    go_wp2_with fail
    go_end0
    exact HF.out _
  · have t0 : decide ((L.length : Int) ≤ 3 * (k : Int) + 64) = false := decide_eq_false (by omega)
    obtain ⟨M, hM⟩ : ∃ M, n / k = M := ⟨_, rfl⟩
    have hMn : M ≤ n := by rw [← hM]; exact Nat.div_le_self n k
    have tM : (n : Int) / (k : Int) = (M : Int) := by rw [← hM]; simp
    have tM2 : (n : Int).tdiv (k : Int) = (M : Int) := by rw [Int.tdiv_eq_ediv_of_nonneg (by omega)]; exact tM
    have wM : IntKind.i64.wrap (M : Int) = (M : Int) := by rw [IntKind.wrap_i64]; omega
    have k0 : ¬ k = 0 := by omega
    have k0' : ¬ (k : Int) = 0 := by omega
    have HH := Lib.hid h
    have HI := Lib.hid hI
    have HL := Lib.hid (And.intro hl (And.intro hM hn))
    clear h hI hl hk hk1 hM hn
    go_enter Try.func27, Try.ntmps27
    go_wp2_with fail
    go_quiet (fail)
    go_wp2_with fail
    obtain ⟨z1, rfl⟩ : ∃ z, z = nq := ⟨_, rfl⟩
    go_quiet (fail)
    go_wp2_with fail
    clear w3k w3l t0 tM tM2 wM k0 k0' hMn c0 c1 c2
    go_loopg [3] ((meas L).toNat + 1) (fun kx s3 wr => ∃ (g : DL) (ch : Bool), s3 = .bool ch ∧ (if ch then (meas g).toNat + 1 else 0) ≤ kx ∧ Hid (Goes T i w (Rd p k n g) wr ∧ LInv n g) ∧ Hid (ch = true → ∀ L2, RFit n M g L2 → RFit n M L L2) ∧ Hid (ch = false → RFit n M L g))
    case atStart => exact ⟨L, true, rfl, Nat.le_refl _, Lib.hid ⟨(Goes.start (A := Rd p k n L) ⟨_, HH.out⟩).below (Rd.framed p k n L) ⟨rfl, rfl, rfl, Nat.le_refl _, fun _ _ => rfl⟩, HI.out⟩, Lib.hid fun _ _ h => h, Lib.hid fun e => by cases e⟩
    case round =>
      obtain ⟨L1, ch, rfl, hkx, HS, HC, HD⟩ := hrel
      cases ch
      · have HF : Hid (RFitP T i w p k n L (.returned (.tuple #[])) wr) := Lib.hid ⟨rfl, L1, ⟨fun h2 => absurd h2 HL.out.1, fun _ => by rw [HL.out.2.1]; exact HD.out rfl⟩, HS.out.2, Lib.hid HS.out.1⟩
        clear HS HC HD
        go_wp2_with fail
        go_end0
        exact HF.out
      · have hkx2 : (meas L1).toNat + 1 ≤ gk := hkx
        have HC2 := Lib.hid (HC.out rfl)
        have hm0 := meas_low HS.out.2.low
        clear hkx HC HD
        obtain ⟨V1, rfl⟩ : ∃ x, x = wr := ⟨_, rfl⟩
        go_wp2_with fail
        go_loopw [3, 4] (fun s3 s4 wr => ∃ (g : DL) (ch : Bool) (lv : Nat), s3 = .bool ch ∧ s4 = .int .i64 lv ∧ lv ≤ 64 ∧ Hid (Goes T i w (Rd p k n g) wr) ∧ Hid (Onto n L1 false g ch) ∧ Hid (∀ L2, RPass n M lv g L2 → RPass n M 0 L1 L2)) (fun _ s _ => 64 - (intOf s).toNat)
        case atStart => exact ⟨L1, false, 0, rfl, rfl, by omega, Lib.hid HS.out.1, Lib.hid (Onto.refl HS.out.2 false), Lib.hid fun _ h => h⟩
        case round =>
          obtain ⟨g, ch, lv, rfl, rfl, hlv, HG, HO, HP⟩ := hrel
          by_cases hl64 : lv < 64
          · have hlz : (lv : Int) < 64 := by omega
            obtain ⟨T1, n1, e1, v1, hd⟩ := HG.out
            have c1 := hd.cells.2.1
            obtain ⟨a1, cap1, rfl, _⟩ := hd.row.form
            have hgl := HO.out.inv.short
            obtain ⟨gs, ks, w3, hrun, hq⟩ := copyQ hd.row (by omega)
            have hB3 := hq.out.2
            obtain ⟨T2, hT2⟩ : ∃ T2 : Tags, T2 = fun x => if x < wr.heap.size then T1 x else none := ⟨_, rfl⟩
            have G0 : Hid (Goes T2 i w3 (Rd p k n g) w3) := Lib.hid (by
              have hdr := hd.rebase
              rw [← hT2] at hdr
              exact Goes.start (Framed.below (Rd.framed p k n g) ⟨_, hdr⟩ hB3))
            have HTG : Hid (T2 gs ≠ some i) := Lib.hid fun e => by
              have hgs := (hq.out.1.lt gs rfl).1
              rw [hT2] at e
              simp only at e
              rw [if_neg (by omega)] at e
              cases e
            have HCH : Hid (∀ (A : Thing) (wz : World), Goes T2 i w3 A wz → Goes T i w A wz) := Lib.hid fun A wz hz => by
              refine Goes.after (T1 := T2) (fun x hx => ?_) (e1.low hB3) hz
              rw [hT2]
              simp only
              rw [if_pos (Nat.lt_of_lt_of_le hx e1.size)]
              exact n1 x hx
            have HX := Lib.hid hq.out.1
            have HGL := Lib.hid hgl
            have c1x : (wr.alloc (.cells #[] 69)).cell? ⟨p, 1, none⟩ = some (.slice a1 g.length cap1) := by rw [((Below.refl wr.heap.size wr).alloc (Nat.le_refl _) _).cell (World.block_lt_of_cell? wr _ c1)]; exact c1
            clear hd n1 e1 hT2 hB3 hq hgl HG c1
            obtain ⟨V2, rfl⟩ : ∃ x, x = wr := ⟨_, rfl⟩
            go_wp2_with (at_builtin; refine wpList_append_run rfl _ _ 39 rfl rfl rfl (hrun.out _) ?_)
            clear c1x
            go_loopw [3, 43] (fun s3 s43 wv => ∃ (h : DL) (ch2 : Bool) (j : Nat), s3 = .bool ch2 ∧ s43 = .int .i64 j ∧ j ≤ g.length ∧ Hid (Goes T2 i w3 (Rd p k n h) wv) ∧ Hid (Onto n L1 false h ch2) ∧ Hid (StepR M lv (PU lv (preL lv (g.take j))) (dcnt g) (dcnt h))) (fun _ s _ => g.length - (intOf s).toNat)
            case atStart => exact ⟨g, ch, 0, rfl, rfl, Nat.zero_le _, G0, HO, Lib.hid (StepR.start _ _ _)⟩
            case round =>
              clear G0
              obtain ⟨h, ch2, j, rfl, rfl, hj, HG, HO2, HST⟩ := hrel
              by_cases hlt : j < g.length
              · have hjz : (j : Int) < (g.length : Int) := by omega
                obtain ⟨y, hy⟩ : ∃ y, g[j]? = some y := ⟨_, List.getElem?_eq_getElem hlt⟩
                obtain ⟨gs', ks', hv, hgl, _, r0, r1, r2⟩ := HX.out.cell hy
                obtain ⟨rfl, rfl⟩ : gs = gs' ∧ ks = ks' := by injection hv with h1 _ h2; injection h1 with h1; injection h1 with h1; exact ⟨h1, h2⟩
                obtain ⟨T3, n3, e3, vh, hdh⟩ := HG.out
                have hgk := e3.block gs hgl HTG.out
                have x0 : wr.cell? ⟨gs, j * 3, none⟩ = some (.int .i64 ((y.1 / 18446744073709551616 : Nat) : Int)) := by rw [World.cell?_of_block hgk]; exact r0
                have x1 : wr.cell? ⟨gs, j * 3 + 1, none⟩ = some (.int .u64 ((y.1 % 18446744073709551616 : Nat) : Int)) := by rw [World.cell?_of_block hgk]; exact r1
                have x2 : wr.cell? ⟨gs, j * 3 + 2, none⟩ = some (.int .i64 y.2) := by rw [World.cell?_of_block hgk]; exact r2
                have hw64 : IntKind.i64.wrap ((j : Int) + 1) = (j : Int) + 1 := by have := HGL.out; rw [IntKind.wrap_i64]; omega
                have HY := Lib.hid hy
                have hpm : y.1 % 18446744073709551616 < 18446744073709551616 := Nat.mod_lt _ (by omega)
                have hsn : preL lv (g.take (j + 1)) = preL lv (g.take j) ++ (if ((y.1 / 18446744073709551616 : Nat) : Int) = lv then [UInt64.ofNat (y.1 % 18446744073709551616)] else []) := by rw [dtake_more hy, show y = (y.1, y.2) from rfl, preL_snoc]
                have hself := cd_self y.1
                have hsib : sibC y.1 = cd (y.1 / 18446744073709551616) (y.1 % 18446744073709551616 ^^^ 1) := rfl
                have hup : upC y.1 = cd (y.1 / 18446744073709551616 + 1) (y.1 % 18446744073709551616 / 2) := rfl
                obtain ⟨l2, hl2⟩ : ∃ l2 : Nat, y.1 / 18446744073709551616 = l2 := ⟨_, rfl⟩
                obtain ⟨pr, hpr⟩ : ∃ pr : Nat, y.1 % 18446744073709551616 = pr := ⟨_, rfl⟩
                rw [hl2, hpr] at hsn hself hsib hup
                rw [hpr] at hpm x1
                rw [hl2] at x0
                have HPL := Lib.hid (And.intro hl2 hpr)
                by_cases hle : l2 = lv
                · subst hle
                  rw [if_pos rfl] at hsn
                  have t0 : ((l2 : Int) != (l2 : Int)) = false := by simp
                  obtain ⟨T4, hT4⟩ : ∃ T4 : Tags, T4 = fun x => if x < wr.heap.size then T3 x else none := ⟨_, rfl⟩
                  have hd4 := hdh.rebase
                  rw [← hT4] at hd4
                  obtain ⟨X0, hX0⟩ : ∃ X0, wr.alloc (.cells #[.int .i64 (l2 : Int), .int .u64 (pr : Int), .int .i64 y.2] 69) = X0 := ⟨_, rfl⟩
                  have hbX : Below wr.heap.size wr X0 := by rw [← hX0]; exact (Below.refl _ _).alloc (Nat.le_refl _) _
                  obtain ⟨Gx, hGx⟩ : ∃ Gx, wr.heap.size = Gx := ⟨_, rfl⟩
                  have hxX : X0.heap[Gx]? = some (.cells #[.int .i64 (l2 : Int), .int .u64 (pr : Int), .int .i64 y.2] 69 (0, 0)) := by rw [← hX0, ← hGx]; exact heap_alloc_new _ _
                  have f0 : X0.cell? ⟨Gx, 0, none⟩ = some (.int .i64 (l2 : Int)) := by rw [cell_of_row _ _ _ _ _ _ hxX]; rfl
                  have f1 : X0.cell? ⟨Gx, 1, none⟩ = some (.int .u64 (pr : Int)) := by rw [cell_of_row _ _ _ _ _ _ hxX]; rfl
                  have HTX : Hid (T4 Gx = none) := Lib.hid (by rw [hT4]; simp only; rw [if_neg (by omega)])
                  have HB4 : Hid (∀ (A : Thing) (wa wz : World), Below wr.heap.size wr wa → Goes T4 i wa A wz → Goes T2 i w3 A wz) := Lib.hid fun A wa wz hb hz => by
                    refine Goes.after (T1 := T4) (fun x hx => ?_) ((e3.low hb)) hz
                    rw [hT4]
                    simp only
                    rw [if_pos (Nat.lt_of_lt_of_le hx e3.size)]
                    exact n3 x hx
                  have HD4 := Lib.hid hd4
                  have HBX := Lib.hid (And.intro hbX hxX)
                  have hhl := HO2.out.inv.short
                  have KC := Lib.hid (fun (W : World) (hb : Below wr.heap.size wr W) (l q : Nat) (hq : q < 18446744073709551616) => rqcount_at (lv := l) (pr := q) (hd4.below hb).cells.2.1 (hd4.below hb).row hhl hq)
                  have hxr : bits .xor .u64 (pr : Int) 1 = ((pr ^^^ 1 : Nat) : Int) := xor_u64 pr 1 hpm (by decide)
                  have hxl := xor_one_lt hpm
                  obtain ⟨ps, hps⟩ : ∃ ps : Nat, pr ^^^ 1 = ps := ⟨_, rfl⟩
                  rw [hps] at hxr hsib hxl
                  have HSB := Lib.hid (And.intro hself (And.intro hsib hup))
                  have HSN := Lib.hid hsn
                  have HPM := Lib.hid (And.intro hpm hxl)
                  have wl1 : IntKind.i64.wrap ((l2 : Int) + 1) = ((l2 + 1 : Nat) : Int) := by rw [IntKind.wrap_i64]; omega
                  clear hv hgl r0 r1 r2 n3 e3 hdh hgk hpm hsn hself hsib hup hl2 hpr hT4 hd4 hbX hxX hhl hxl hps HG hy
                  go_wp2_with fail
                  (try rw [hGx])
                  (try rw [hX0])
                  refine wp_region_mix (fun V => V.cell? ⟨Gx, 0, none⟩ = some (.int .i64 (l2 : Int)) ∧ V.cell? ⟨Gx, 1, none⟩ = some (.int .u64 (pr : Int))) 13 [(true, 0), (true, 1), (true, 2), (true, 3), (true, 5), (true, 6), (true, 7), (true, 8), (true, 9), (false, 4), (false, 10), (true, 11), (true, 12)] (by kernel_rfl) (by decide +kernel) rfl (by decide +kernel) ⟨f0, f1⟩ ?_
                  iterate 9
                    refine wpMix_take (v := ?_) rfl rfl ?_ ?_
                    rotate_left
                    · (intro W hW; (try dsimp only at hW); go_simp) <;> with_reducible rfl
                    simp only [Act.put, List.setIfInBounds_toArray, List.set_cons_zero, List.set_cons_succ]
                  refine wpMix_run rfl ?_
                  intro K hK
                  go_wp2_with fail
                  have hb4 : Below wr.heap.size wr X0.drew := HBX.out.1.trans ⟨rfl, rfl, rfl, Nat.le_refl _, fun _ _ => rfl⟩
                  refine (KC.out _ hb4 l2 pr HPM.out.1).mono ?_
                  rintro e W5 ⟨rfl, hb5⟩
                  rw [HSB.out.1]
                  have hx5 := (hb5.block Gx (lt_of_heap (w := X0.drew) HBX.out.2)).trans HBX.out.2
                  have hb5' := hb4.trans (hb5.mono hb4.size)
                  have f05 : W5.cell? ⟨Gx, 0, none⟩ = some (.int .i64 (l2 : Int)) := by rw [cell_of_row _ _ _ _ _ _ hx5]; rfl
                  have f15 : W5.cell? ⟨Gx, 1, none⟩ = some (.int .u64 (pr : Int)) := by rw [cell_of_row _ _ _ _ _ _ hx5]; rfl
                  obtain ⟨ca, hca⟩ : ∃ ca, dcnt h y.1 = ca := ⟨_, rfl⟩
                  obtain ⟨cb, hcb⟩ : ∃ cb, dcnt h (sibC y.1) = cb := ⟨_, rfl⟩
                  obtain ⟨cu, hcu⟩ : ∃ cu, dcnt h (upC y.1) = cu := ⟨_, rfl⟩
                  have HC := Lib.hid (And.intro hca (And.intro hcb hcu))
                  rw [hca]
                  clear hb4 f0 f1 hca hcb hcu hb5
                  go_wp2_with fail
                  refine hK.out _ _ (fun _ => ⟨f05, f15⟩) ?_
                  clear hK K
                  refine wpMix_run rfl ?_
                  intro K hK
                  go_wp2_with fail
                  have HB5 := Lib.hid (And.intro hb5' hx5)
                  refine (KC.out _ ?_ l2 ps HPM.out.2).mono ?_
                  · first | exact HB5.out.1 | exact HB5.out.1.trans ⟨rfl, rfl, rfl, Nat.le_refl _, fun _ _ => rfl⟩
                  rintro e W6 ⟨rfl, hb6⟩
                  rw [← HSB.out.2.1, HC.out.2.1]
                  have hx6 := (hb6.block Gx (lt_of_heap (w := W5) HB5.out.2)).trans HB5.out.2
                  have hb6' := HB5.out.1.trans (hb6.mono HB5.out.1.size)
                  have f06 : W6.cell? ⟨Gx, 0, none⟩ = some (.int .i64 (l2 : Int)) := by rw [cell_of_row _ _ _ _ _ _ hx6]; rfl
                  have f16 : W6.cell? ⟨Gx, 1, none⟩ = some (.int .u64 (pr : Int)) := by rw [cell_of_row _ _ _ _ _ _ hx6]; rfl
                  clear f05 f15 hb5' hx5 hb6
                  have HB6 := Lib.hid (And.intro hb6' hx6)
                  clear hb6' hx6
                  go_wp2_with fail
                  refine hK.out _ _ (fun _ => ⟨f06, f16⟩) ?_
                  clear hK K
                  iterate 2
                    refine wpMix_take (v := ?_) rfl rfl ?_ ?_
                    rotate_left
                    · (intro W hW; (try dsimp only at hW); go_simp) <;> with_reducible rfl
                    simp only [Act.put, List.setIfInBounds_toArray, List.set_cons_zero, List.set_cons_succ]
                  refine wpMix_nil ?_
                  have K3 := KC.out W6 HB6.out.1 (l2 + 1) (pr / 2) (by have := HPM.out.1; omega)
                  rw [show (((l2 + 1 : Nat)) : Int) = (l2 : Int) + 1 from by omega, show ((pr / 2 : Nat) : Int) = (pr : Int) / 2 from by omega, ← HSB.out.2.2, HC.out.2.2] at K3
                  have hs1 := HO2.out.inv.sums HL.out.2.2 y.1
                  have hg0 := dcnt_nonneg HO2.out.inv.inv.pos y.1
                  have hg1 := dcnt_nonneg HO2.out.inv.inv.pos (sibC y.1)
                  have hg2 := dcnt_nonneg HO2.out.inv.inv.pos (upC y.1)
                  have hg3 := (all_le HO2.out.inv.inv y.1).2
                  unfold allC at hs1 hg3
                  rw [HC.out.1, HC.out.2.1, HC.out.2.2] at hs1 hg3
                  rw [HC.out.1] at hg0
                  rw [HC.out.2.1] at hg1
                  rw [HC.out.2.2] at hg2
                  have hnn := HL.out.2.2
                  have wab : IntKind.i64.wrap (ca + cb) = ca + cb := by rw [IntKind.wrap_i64]; omega
                  have wabc : IntKind.i64.wrap (ca + cb + cu) = ca + cb + cu := by rw [IntKind.wrap_i64]; omega
                  have wna : IntKind.i64.wrap (-ca) = -ca := by rw [IntKind.wrap_i64]; omega
                  have wnb : IntKind.i64.wrap (-cb) = -cb := by rw [IntKind.wrap_i64]; omega
                  have HNN := Lib.hid (And.intro hg0 (And.intro hg1 (And.intro hg2 hg3)))
                  go_wp2_with fail
                  refine K3.mono ?_
                  rintro e W7 ⟨rfl, hb7⟩
                  clear K3
                  have hx7 := (hb7.block Gx (lt_of_heap HB6.out.2)).trans HB6.out.2
                  have hb7' := HB6.out.1.trans (hb7.mono HB6.out.1.size)
                  have HB7 := Lib.hid (And.intro hb7' hx7)
                  have f07 : W7.cell? ⟨Gx, 0, none⟩ = some (.int .i64 (l2 : Int)) := by rw [cell_of_row _ _ _ _ _ _ hx7]; rfl
                  have f17 : W7.cell? ⟨Gx, 1, none⟩ = some (.int .u64 (pr : Int)) := by rw [cell_of_row _ _ _ _ _ _ hx7]; rfl
                  clear f06 f16 hx7 hb7' hb7 hs1 hg2 hg3 hnn
                  have hyg : ∃ q ∈ g, q.1 = y.1 := ⟨y, List.mem_of_getElem? HY.out, rfl⟩
                  have HYG := Lib.hid hyg
                  clear hyg
                  by_cases hc0 : ca = 0
                  · subst hc0
                    have hgo := rq_gone HST.out HO.out.inv HYG.out (u := UInt64.ofNat pr) (by rw [UInt64.toNat_ofNat', Nat.mod_eq_of_lt HPM.out.1]; exact HSB.out.1) HC.out.1
                    have hcb : cb = 0 := HC.out.2.1.symm.trans hgo.2
                    subst hcb
                    have HSN2 := Lib.hid hgo.1
                    rw [← HSN.out] at HSN2
                    clear hgo
                    have hf := (Goes.start (A := Rd p k n h) ⟨_, HD4.out⟩).below (Rd.framed p k n h) HB7.out.1
                    have HG7 := Lib.hid (HB4.out _ wr W7 (Below.refl _ _) hf)
                    clear hf
                    go_wp2_with fail
                    go_roundw
                    case rel => exact ⟨h, ch2, j + 1, rfl, rfl, hlt, HG7, HO2, HSN2⟩
                    case measure => simp [intOf]; omega
                  · have htab : (ca + cb == 0) = false := by simp; omega
                    have hta : (ca == 0) = false := by simp; omega
                    by_cases hcM : (M : Int) < ca + cb + cu
                    · have htm : decide ((M : Int) < ca + cb + cu) = true := decide_eq_true hcM
                      have hal : allF (dcnt g) y.1 = ca + cb + cu := by
                        rw [← HST.out.all (show y.1 / 18446744073709551616 = l2 from HPL.out.1)]
                        unfold allF
                        rw [HC.out.1, HC.out.2.1, HC.out.2.2]
                      have HSN2 := Lib.hid (HST.out.stay (u := UInt64.ofNat pr) (by rw [UInt64.toNat_ofNat', Nat.mod_eq_of_lt HPM.out.1, HSB.out.1, hal]; exact hcM))
                      rw [← HSN.out] at HSN2
                      have hf := (Goes.start (A := Rd p k n h) ⟨_, HD4.out⟩).below (Rd.framed p k n h) HB7.out.1
                      have HG7 := Lib.hid (HB4.out _ wr W7 (Below.refl _ _) hf)
                      clear hf hal
                      go_wp2_with fail
                      go_roundw
                      case rel => exact ⟨h, ch2, j + 1, rfl, rfl, hlt, HG7, HO2, HSN2⟩
                      case measure => simp [intOf]; omega
                    · have htm : decide ((M : Int) < ca + cb + cu) = false := decide_eq_false hcM
                      have hal : allC h y.1 = ca + cb + cu := by
                        unfold allC
                        rw [HC.out.1, HC.out.2.1, HC.out.2.2]
                      have hlf := rq_lift HST.out hl64 HO2.out (u := UInt64.ofNat pr) (c := y.1) (by rw [UInt64.toNat_ofNat', Nat.mod_eq_of_lt HPM.out.1]; exact HSB.out.1) (by rw [HC.out.1]; exact hc0) (by rw [hal]; omega)
                      rw [HC.out.1, HC.out.2.1, ← HSN.out] at hlf
                      have HLF := Lib.hid hlf
                      have HND := Lib.hid (fun q (hq : q ∈ h) => rqnode_le HO2.out.inv.inv hq)
                      have HG := Lib.hid (Goes.start (A := Rd p k n h) (T := T4) (i := i) ⟨_, HD4.out.below HB7.out.1⟩)
                      have K1 := rq_add_step HG.out HTX.out (lt_of_heap HB7.out.2) HB7.out.2 (lv := l2) (pr := pr) HPM.out.1 (a := (l2 : Int)) (b := (pr : Int)) (y := -ca) rfl rfl HO2.out.inv.short (fun q hq => by have := HND.out q hq; have := HL.out.2.2; have := HNN.out; unfold InI; omega) (fun q hq => (HND.out q hq).1) (Below.refl W7.heap.size W7)
                      rw [HSB.out.1, HLF.out.1] at K1
                      have HSD : Hid ((delD y.1 h).length ≤ 100000 ∧ (delD (sibC y.1) (delD y.1 h)).length ≤ 100000) := Lib.hid ⟨Nat.le_trans (List.length_filter_le _ _) HO2.out.inv.short, Nat.le_trans (List.length_filter_le _ _) (Nat.le_trans (List.length_filter_le _ _) HO2.out.inv.short)⟩
                      clear hlf hal
                      go_wp2_with fail
                      refine K1.mono ?_
                      rintro e W8 ⟨rfl, hx8, HG8⟩
                      clear K1
                      have f08 : W8.cell? ⟨Gx, 0, none⟩ = some (.int .i64 (l2 : Int)) := by rw [cell_of_row _ _ _ _ _ _ hx8]; rfl
                      have f18 : W8.cell? ⟨Gx, 1, none⟩ = some (.int .u64 (pr : Int)) := by rw [cell_of_row _ _ _ _ _ _ hx8]; rfl
                      have HX8 := Lib.hid hx8
                      clear f07 f17 hx8
                      by_cases hb0 : cb = 0
                      · subst hb0
                        have hz := rq_add_step HG8.out HTX.out (lt_of_heap HB7.out.2) HX8.out (lv := l2 + 1) (pr := pr / 2) (by have := HPM.out.1; omega) (a := (l2 : Int) + 1) (b := (pr : Int) / 2) (y := ca + 0) (by omega) (by omega) HSD.out.1 (fun q hq => by have := HND.out q (mem_delD.1 hq).1; have := HL.out.2.2; have := HNN.out; unfold InI; omega) (fun q hq => (HND.out q (mem_delD.1 hq).1).1) (Below.refl W8.heap.size W8)
                        rw [← HSB.out.2.2, ← HLF.out.2.2.1 rfl, HLF.out.2.2.2.1, Int.add_zero] at hz
                        have wa0 : IntKind.i64.wrap ca = ca := by rw [Int.add_zero] at wab; exact wab
                        go_wp2_with fail
                        refine hz.mono ?_
                        rintro e W9 ⟨rfl, hx9, HG9⟩
                        clear hz
                        have HG7 := Lib.hid (HB4.out _ W7 W9 HB7.out.1 HG9.out)
                        have HON := Lib.hid HLF.out.2.2.2.2.1
                        have HST9 := Lib.hid HLF.out.2.2.2.2.2
                        clear f08 f18 hx9
                        go_wp2_with fail
                        go_roundw
                        case rel => exact ⟨liftL h y.1, true, j + 1, rfl, rfl, hlt, HG7, HON, HST9⟩
                        case measure => simp [intOf]; omega
                      · have htb : decide (0 < cb) = true := decide_eq_true (by omega)
                        have K2 := rq_add_step HG8.out HTX.out (lt_of_heap HB7.out.2) HX8.out (lv := l2) (pr := ps) HPM.out.2 (a := (l2 : Int)) (b := (ps : Int)) (y := -cb) rfl rfl HSD.out.1 (fun q hq => by have := HND.out q (mem_delD.1 hq).1; have := HL.out.2.2; have := HNN.out; unfold InI; omega) (fun q hq => (HND.out q (mem_delD.1 hq).1).1) (Below.refl W8.heap.size W8)
                        rw [← HSB.out.2.1, HLF.out.2.1 hb0] at K2
                        go_wp2_with fail
                        refine K2.mono ?_
                        rintro e W9 ⟨rfl, hx9, HG9⟩
                        clear K2
                        have hz := rq_add_step HG9.out HTX.out (lt_of_heap HB7.out.2) hx9 (lv := l2 + 1) (pr := pr / 2) (by have := HPM.out.1; omega) (a := (l2 : Int) + 1) (b := (pr : Int) / 2) (y := ca + cb) (by omega) (by omega) HSD.out.2 (fun q hq => by have := HND.out q (mem_delD.1 (mem_delD.1 hq).1).1; have := HL.out.2.2; have := HNN.out; unfold InI; omega) (fun q hq => (HND.out q (mem_delD.1 (mem_delD.1 hq).1).1).1) (Below.refl W9.heap.size W9)
                        rw [← HSB.out.2.2, HLF.out.2.2.2.1] at hz
                        have f09 : W9.cell? ⟨Gx, 0, none⟩ = some (.int .i64 (l2 : Int)) := by rw [cell_of_row _ _ _ _ _ _ hx9]; rfl
                        have f19 : W9.cell? ⟨Gx, 1, none⟩ = some (.int .u64 (pr : Int)) := by rw [cell_of_row _ _ _ _ _ _ hx9]; rfl
                        clear f08 f18
                        go_wp2_with fail
                        refine hz.mono ?_
                        rintro e WA ⟨rfl, hxA, HGA⟩
                        clear hz
                        have HG7 := Lib.hid (HB4.out _ W7 WA HB7.out.1 HGA.out)
                        have HON := Lib.hid HLF.out.2.2.2.2.1
                        have HST9 := Lib.hid HLF.out.2.2.2.2.2
                        clear f09 f19 hxA hx9
                        go_wp2_with fail
                        go_roundw
                        case rel => exact ⟨liftL h y.1, true, j + 1, rfl, rfl, hlt, HG7, HON, HST9⟩
                        case measure => simp [intOf]; omega
                · rw [if_neg (by omega), List.append_nil] at hsn
                  have t0 : ((l2 : Int) != (lv : Int)) = true := by simp; omega
                  have HSN2 := HST
                  rw [← hsn] at HSN2
                  have hfb : ∀ wz, Below wr.heap.size wr wz → Goes T2 i w3 (Rd p k n h) wz := fun wz hb => Goes.below (⟨T3, n3, e3, _, hdh⟩ : Goes T2 i w3 (Rd p k n h) wr) (Rd.framed p k n h) hb
                  have hbX : Below wr.heap.size wr (wr.alloc (.cells #[.int .i64 (l2 : Int), .int .u64 (pr : Int), .int .i64 y.2] 69)) := (Below.refl _ _).alloc (Nat.le_refl _) _
                  have HFB := Lib.hid (hfb _ hbX)
                  clear hv hgl r0 r1 r2 n3 e3 hdh hgk hpm hsn hself hsib hup hl2 hpr hfb hbX HG hy
                  go_wp2_with fail
                  go_roundw
                  case rel => exact ⟨h, ch2, j + 1, rfl, rfl, hlt, HFB, HO2, HSN2⟩
                  case measure => simp [intOf]; omega
              · obtain rfl : j = g.length := by omega
                have HPN := Lib.hid (fun L2 (k : RPass n M (lv + 1) h L2) => HP.out L2 (.next hl64 HO2.out.inv (by have := HST.out; rw [List.take_length] at this; exact this) k))
                have HG7 := Lib.hid (HCH.out _ _ HG.out)
                have hw64 : IntKind.i64.wrap ((lv : Int) + 1) = (lv : Int) + 1 := by rw [IntKind.wrap_i64]; omega
                clear HST HG
                go_wp2_with fail
                go_roundw
                case rel => exact ⟨h, ch2, lv + 1, rfl, by go_num, hl64, HG7, HO2, HPN⟩
                case measure => simp [intOf]; omega
          · obtain rfl : lv = 64 := by omega
            have HS2 := Lib.hid (And.intro HG.out HO.out.inv)
            have hP0 := HP.out g (.top g)
            have HC3 : Hid (ch = true → ∀ L2, RFit n M g L2 → RFit n M L L2) := Lib.hid fun e L2 k => HC2.out L2 (.again HO.out.inv hP0 (by
              rcases HO.out.less e with x | x
              · cases x
              · exact x) k)
            have HD3 : Hid (ch = false → RFit n M L g) := Lib.hid fun e => HC2.out g (by
              have e2 := (HO.out.same e).2
              rw [← e2] at hP0 ⊢
              exact .last hP0)
            have HM : Hid ((if ch then (meas g).toNat + 1 else 0) < (meas L1).toNat + 1) := Lib.hid (by
              cases hch : ch
              · simp
              · have hx : meas g < meas L1 := by
                  rcases HO.out.less hch with x | x
                  · cases x
                  · exact x
                have := meas_low HO.out.inv.low
                simp only [if_true]
                omega)
            clear hP0 HO HP HG
            go_wp2_with fail
            go_roundg (if ch then (meas g).toNat + 1 else 0)
            case rel => exact ⟨g, ch, rfl, Nat.le_refl _, HS2, HC3, HD3⟩
            all_goals (have := HM.out; omega)
end Go.Proofs.Ytahaoodklfmddaa
