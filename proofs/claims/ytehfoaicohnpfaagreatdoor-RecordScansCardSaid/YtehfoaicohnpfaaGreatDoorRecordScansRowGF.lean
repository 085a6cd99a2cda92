/- The texts RecScan RecT RecU RecV RecW, one behind the other; each one's own comment says what it holds. -/
import Derived.Test.YtehfoaicohnpfaaGreatDoorRecordScansRowGD
import Derived.Test.YtehfoaicohnpfaaGreatDoorRecordScansRowGE
import Derived.Test.YtehfoaicohnpfaaGreatDoorCodecFrame
import Derived.Test.YtehfoaicohnpfaaGreatDoorShelf
import Derived.OwnWalk
/- Contracts of record.Begin, of HasPrefix at bytes, and of record.first; which records a log has, plainly. Conditions: the table of Sum; at most 1000000 bytes. -/
set_option maxRecDepth 100000
namespace Go.Proofs.YtehfoaicohnpfaaGreatDoor
open Go.RowKit Go.Maps Go.Sort Go.Lib

/-- what a log begins with -/
def headL (id : Nat) : List UInt8 := frameL (0 :: dig id)
theorem head_len {id : Nat} (h : id < 18446744073709551616) : 10 ≤ (headL id).length ∧ (headL id).length ≤ 19 := by
  have h1 := dig_len10 h
  have h2 := dig_pos id
  unfold headL
  rw [frameL_len, List.length_cons]
  omega
theorem begin_any {w : World} (hq : Quads w) (id : Nat) (hid : id < 18446744073709551616) : Calls Tryz.prog 8 #[.int .u64 (id : Int)] w (OwnP w (headL id)) := by
  have hH : Holds (w.alloc (.cells #[.int .u8 0] 5)) (.slice (some ⟨w.heap.size, 0, none⟩) 1 1) (u8s [0]) := holds_one8 w 0 0 (by simp)
  have KP := Put_any hH id hid (by simp)
  have hd := dig_len10 hid
  have hb0 := below_o w (.cells #[.int .u8 0] 5)
  have HB0 := Lib.hid hb0
  have HF := Lib.hid (fun (W : World) (hb : Below w.heap.size w W) (a : Option Addr) (c : Nat) (hh : Holds W (.slice a (0 :: dig id).length c) (u8s (0 :: dig id))) => Frame_any (hq.below hb hq.1) hh (by rw [List.length_cons]; omega))
  rw [List.cons_append, List.nil_append] at KP
  have hl : headL id = frameL (0 :: dig id) := rfl
  rw [hl]
  generalize (0 :: dig id) = D at *
  clear hH hid hd hq hl hb0
  go_enter Tryz.func8, Tryz.ntmps8
  go_wp2_with fail
  refine KP.mono ?_
  rintro e w1 ⟨v1, rfl, ho, hb⟩
  have hb1 := HB0.out.trans (hb.mono HB0.out.size)
  have hO : Holds w1 v1 (u8s D) := Holds.of_row (by rw [u8s_len]; exact ho)
  obtain ⟨a, c, hv, _⟩ := hO.form
  rw [u8s_len] at hv
  subst hv
  have KF := HF.out w1 hb1 a c hO
  have HB1 := Lib.hid hb1
  generalize D.length = m at *
  clear ho hb hb1 hO KP HF HB0
  go_wp2_with fail
  refine KF.mono ?_
  rintro e w2 ⟨v2, rfl, h2⟩
  have FIN : Hid (OwnP w (frameL D) (.returned v2) w2) := Lib.hid ⟨v2, rfl, ownsRow_rebase3v h2.out.1 (fun g hg => Nat.le_trans HB1.out.size (h2.out.1.lt g hg).1), HB1.out.trans (h2.out.2.mono HB1.out.size)⟩
  clear h2 KF
  go_wp2_with fail
  go_ret
  exact FIN.out
def ints8 (l : List UInt8) : List Int := l.map fun c => (c.toNat : Int)
theorem bytesOf_ints (l : List UInt8) : Lib.bytesOf (ints8 l) = l := by
  unfold Lib.bytesOf ints8
  rw [List.map_map]
  conv => rhs; rw [← List.map_id l]
  apply List.map_congr_left
  intro c _
  simp
theorem bytesIn_of {w : World} {p : Option Addr} {n c : Nat} {l : List UInt8} (h : Holds w (.slice p n c) (u8s l)) : Lib.BytesIn w p n (ints8 l) := by
  rcases Nat.eq_zero_or_pos n with e | hn
  · subst e; exact Lib.BytesIn.nil w p _
  · obtain ⟨ad, rfl⟩ := h.ptr hn
    refine Lib.BytesIn.of_cells fun i hi => ?_
    have hl := h.len.1
    rw [u8s_len] at hl
    have hi' : i < l.length := by omega
    have hc := h.cell (j := i) (u := .int .u8 ((l[i]).toNat : Int)) (by unfold u8s; rw [List.getElem?_map, List.getElem?_eq_getElem hi']; rfl)
    rw [hc]
    unfold ints8
    rw [List.getD_eq_getElem?_getD, List.getElem?_map, List.getElem?_eq_getElem hi']
    rfl
theorem prefix_any {w : World} {p1 p2 : Option Addr} {n c m d : Nat} {l q : List UInt8} (h1 : Holds w (.slice p1 n c) (u8s l)) (h2 : Holds w (.slice p2 m d) (u8s q)) :
    Calls Tryz.prog 12 #[.slice p1 n c, .slice p2 m d] w fun e w' => e = .returned (.bool (q.isPrefixOf l)) ∧ w' = w := by
  have l1 := h1.len
  have l2 := h2.len
  rw [u8s_len] at l1 l2
  have := Tryz.bytes_HasPrefix_all p1 p2 n c m d (ints8 l) (ints8 q) w (by simp [ints8]; exact l1.1) (by simp [ints8]; exact l2.1) l1.2 (bytesIn_of h1) (bytesIn_of h2)
  rw [bytesOf_ints, bytesOf_ints] at this
  exact this
/-- the record whose frame bytes begin with, and how many bytes that frame is -/
def firstR (l : List UInt8) : Option (RV × Nat) := (unfL l).bind fun c => (loadR c).bind fun x => some (x, c.length + 8)
theorem firstR_len {l : List UInt8} {x : RV} {n : Nat} (h : firstR l = some (x, n)) : 8 ≤ n ∧ n ≤ l.length ∧ n ≤ 262152 := by
  unfold firstR at h
  obtain ⟨c, h1, h2⟩ := bind_some' h
  obtain ⟨y, _, h4⟩ := bind_some' h2
  simp only [Option.some.injEq, Prod.mk.injEq] at h4
  obtain ⟨_, rfl⟩ := h4
  have := unf_len h1
  omega
def scanF : Nat → List UInt8 → List RV × Nat
  | 0, _ => ([], 0)
  | f + 1, l => match firstR l with
    | none => ([], 0)
    | some q => (q.1 :: (scanF f (l.drop q.2)).1, q.2 + (scanF f (l.drop q.2)).2)
/-- the records that bytes begin with, and how many bytes those are -/
def scanL (l : List UInt8) : List RV × Nat := scanF (l.length + 1) l
theorem scanF_eq : ∀ (f g : Nat) (l : List UInt8), l.length < f → l.length < g → scanF f l = scanF g l
  | 0, _, _, h, _ => absurd h (by omega)
  | _, 0, _, _, h => absurd h (by omega)
  | f + 1, g + 1, l, h1, h2 => by
    unfold scanF
    cases e : firstR l with
    | none => rfl
    | some q =>
      obtain ⟨x, n⟩ := q
      have := firstR_len e
      simp only
      rw [scanF_eq f g (l.drop n) (by rw [List.length_drop]; omega) (by rw [List.length_drop]; omega)]
theorem scan_stop {l : List UInt8} (h : firstR l = none) : scanL l = ([], 0) := by unfold scanL scanF; rw [h]
theorem scan_step {l : List UInt8} {x : RV} {n : Nat} (h : firstR l = some (x, n)) : scanL l = (x :: (scanL (l.drop n)).1, n + (scanL (l.drop n)).2) := by
  have := firstR_len h
  conv => lhs; unfold scanL scanF
  rw [h]
  simp only
  unfold scanL
  rw [scanF_eq l.length ((l.drop n).length + 1) (l.drop n) (by rw [List.length_drop]; omega) (by omega)]
/-- what first answers -/
def FirstRP (w : World) (l : List UInt8) (e : Ending) (w' : World) : Prop := Below w.heap.size w w' ∧
  ((∃ x n a b c d, firstR l = some (x, n) ∧ e = .returned (.tuple #[recV x a b c d, .int .i64 (n : Int), .int .i64 0]) ∧ RecOk w.heap.size x a b c d w') ∨
    (firstR l = none ∧ ∃ n z : Int, z ≠ 0 ∧ e = .returned (.tuple #[recV zeroR nilV nilV nilV nilV, .int .i64 n, .int .i64 z])))
theorem int_ne0 {z : Int} (h : z ≠ 0) : (z != 0) = true := by rw [bne_iff_ne]; exact h
set_option maxHeartbeats 6400000 in
theorem rfirst_any {w : World} (hqd : Quads w) {p0 : Option Addr} {n k0 : Nat} {l : List UInt8} (h : Holds w (.slice p0 n k0) (u8s l)) (hl : l.length ≤ 1000000) :
    Calls Tryz.prog 13 #[.slice p0 n k0] w (FirstRP w l) := by
  have hb0 := below_o w (.cells #[.int .i64 0, .string ⟨#[]⟩, .slice none 0 0, .string ⟨#[]⟩, .string ⟨#[]⟩, .slice none 0 0, .slice none 0 0, .string ⟨#[]⟩, .slice none 0 0] 43)
  have KU := unframe_any (hqd.below hb0 hqd.1) (h.below hb0) hl
  have hr0 := heap_alloc_new w (.cells #[.int .i64 0, .string ⟨#[]⟩, .slice none 0 0, .string ⟨#[]⟩, .string ⟨#[]⟩, .slice none 0 0, .slice none 0 0, .string ⟨#[]⟩, .slice none 0 0] 43)
  have hlt0 : w.heap.size < (w.alloc (.cells #[.int .i64 0, .string ⟨#[]⟩, .slice none 0 0, .string ⟨#[]⟩, .string ⟨#[]⟩, .slice none 0 0, .slice none 0 0, .string ⟨#[]⟩, .slice none 0 0] 43)).heap.size := by simp
  have HS := Lib.hid (fun (W : World) (hb : Below (w.alloc (.cells #[.int .i64 0, .string ⟨#[]⟩, .slice none 0 0, .string ⟨#[]⟩, .string ⟨#[]⟩, .slice none 0 0, .slice none 0 0, .string ⟨#[]⟩, .slice none 0 0] 43)).heap.size (w.alloc (.cells #[.int .i64 0, .string ⟨#[]⟩, .slice none 0 0, .string ⟨#[]⟩, .string ⟨#[]⟩, .slice none 0 0, .slice none 0 0, .string ⟨#[]⟩, .slice none 0 0] 43)) W) => (⟨hb0.trans (hb.mono hb0.size), (hb.block _ hlt0).trans hr0⟩ : Below w.heap.size w W ∧ W.heap[w.heap.size]? = some (.cells #[.int .i64 0, .string ⟨#[]⟩, .slice none 0 0, .string ⟨#[]⟩, .string ⟨#[]⟩, .slice none 0 0, .slice none 0 0, .string ⟨#[]⟩, .slice none 0 0] 43 (0, 0))))
  clear h hl hqd hb0 hr0 hlt0
  go_enter Tryz.func13, Tryz.ntmps13
  go_wp2_with fail
  refine KU.mono ?_
  rintro e w1 ⟨hB1, ⟨c, v, hu, rfl, ho⟩ | ⟨z, hu, hz, rfl⟩⟩
  rotate_left
  · obtain ⟨hb1, hr1⟩ := HS.out w1 hB1
    have hn : firstR l = none := by unfold firstR; rw [hu]; rfl
    obtain ⟨f0, fk⟩ := set9_at (u0 := .int .i64 0) (u1 := .string ⟨#[]⟩) (u2 := .slice none 0 0) (u3 := .string ⟨#[]⟩) (u4 := .string ⟨#[]⟩) (u5 := .slice none 0 0) (u6 := .slice none 0 0) (u7 := .string ⟨#[]⟩) (u8 := .slice none 0 0) hr1
    obtain ⟨q0, q1, q2, q3, q4, q5, q6, q7, q8, qf⟩ := nine_cells hr1
    obtain ⟨r0, r1, r2, r3, r4, r5, r6, r7, r8, _⟩ := nine_cells f0
    have FI : Hid (FirstRP w l (.returned (.tuple #[.agg #[.int .i64 0, .string ⟨#[]⟩, .slice none 0 0, .string ⟨#[]⟩, .string ⟨#[]⟩, .slice none 0 0, .slice none 0 0, .string ⟨#[]⟩, .slice none 0 0], .int .i64 0, .int .i64 z])) (set9 w1 w.heap.size (.int .i64 0) (.string ⟨#[]⟩) (.slice none 0 0) (.string ⟨#[]⟩) (.string ⟨#[]⟩) (.slice none 0 0) (.slice none 0 0) (.string ⟨#[]⟩) (.slice none 0 0))) := Lib.hid ⟨set9_below hb1 (Nat.le_refl _) _ _ _ _ _ _ _ _ _, .inr ⟨hn, 0, z, hz, rfl⟩⟩
    have t0 := int_ne0 hz
    unfold set9 at r0 r1 r2 r3 r4 r5 r6 r7 r8
    clear hB1 hb1 hr1 hn f0 fk KU HS hu hz
    go_wp2_with fail
    refine bodyPost_ret (v := .tuple #[.agg #[.int .i64 0, .string ⟨#[]⟩, .slice none 0 0, .string ⟨#[]⟩, .string ⟨#[]⟩, .slice none 0 0, .slice none 0 0, .string ⟨#[]⟩, .slice none 0 0], .int .i64 0, .int .i64 z]) ?_ rfl FI.out
    simp [results, Tryz.results13, go_sem, r0, r1, r2, r3, r4, r5, r6, r7, r8]
  have hul := unf_len hu
  have hO : Holds w1 v (u8s c) := Holds.of_row (by rw [u8s_len]; exact ho)
  obtain ⟨va, vc, hv, _⟩ := ownsRow_form ho
  have KL := fun W (hb : Below w1.heap.size w1 W) => rload_any (p0 := va) (n := c.length) (k0 := vc) (by rw [← hv]; exact hO.below hb) (by omega : c.length ≤ 1000000)
  subst hv
  obtain ⟨hb1, hr1⟩ := HS.out w1 hB1
  have HB1 := Lib.hid hb1
  have HR1 := Lib.hid hr1
  have HC := Lib.hid hu
  obtain ⟨N, hN⟩ : ∃ N, c.length = N := ⟨_, rfl⟩
  have hNs : N ≤ 262144 := by omega
  have e8 : ((N : Int) + 8) = ((N + 8 : Nat) : Int) := by omega
  rw [hN] at KL
  have HN := Lib.hid hN
  have KL1 := KL w1 (Below.refl _ _)
  rw [hN, e8]
  obtain ⟨N8, hN8⟩ : ∃ N8, N + 8 = N8 := ⟨_, rfl⟩
  rw [hN8]
  have HN8 := Lib.hid hN8
  clear hB1 hb1 hr1 hO ho hul hu HS KU hN hNs KL hN8 e8
  go_wp2_with fail
  refine KL1.mono ?_
  rintro e w2 ⟨hB2, ⟨x, a, b, c', d, hx, rfl, hro⟩ | ⟨hx, rfl⟩⟩
  · have hs : firstR l = some (x, N8) := by unfold firstR; rw [HC.out]; simp only [Option.bind_some]; rw [hx]; simp only [Option.bind_some]; rw [HN.out, HN8.out]
    obtain ⟨a1, ac, b1, bc, c1, cc, d1, dc, rfl, rfl, rfl, rfl⟩ := hro.holds.form
    unfold recV
    have hlen : ∃ an bn cn dn, x.tc.length = an ∧ x.rd.length = bn ∧ x.rm.length = cn ∧ x.ws.length = dn := ⟨_, _, _, _, rfl, rfl, rfl, rfl⟩
    obtain ⟨an, bn, cn, dn, ea, eb, ec, ed⟩ := hlen
    rw [ea, eb, ec, ed] at hro ⊢
    have S0 := HB1.out.trans (hB2.mono HB1.out.size)
    have hr2 := (hB2.block _ (lt_of_heap HR1.out)).trans HR1.out
    have hb3 := below_o w2 (.cells #[.int .i64 x.k, .string x.tn, .slice a1 an ac, .string x.rn, .string x.rt, .slice b1 bn bc, .slice c1 cn cc, .string x.nm, .slice d1 dn dc] 43)
    have hr3 := (hb3.block _ (lt_of_heap hr2)).trans hr2
    have S3 := S0.trans (hb3.mono S0.size)
    obtain ⟨f0, fk⟩ := set9_at (u0 := .int .i64 x.k) (u1 := .string x.tn) (u2 := .slice a1 an ac) (u3 := .string x.rn) (u4 := .string x.rt) (u5 := .slice b1 bn bc) (u6 := .slice c1 cn cc) (u7 := .string x.nm) (u8 := .slice d1 dn dc) hr3
    obtain ⟨q0, q1, q2, q3, q4, q5, q6, q7, q8, qf⟩ := nine_cells hr3
    obtain ⟨r0, r1, r2, r3, r4, r5, r6, r7, r8, _⟩ := nine_cells f0
    have hro3 := ((hro.rebase HB1.out.size).next hb3).of_block (w' := set9 (w2.alloc (.cells #[.int .i64 x.k, .string x.tn, .slice a1 an ac, .string x.rn, .string x.rt, .slice b1 bn bc, .slice c1 cn cc, .string x.nm, .slice d1 dn dc] 43)) w.heap.size (.int .i64 x.k) (.string x.tn) (.slice a1 an ac) (.string x.rn) (.string x.rt) (.slice b1 bn bc) (.slice c1 cn cc) (.string x.nm) (.slice d1 dn dc)) hr3 (by decide) (by decide) (by decide) (by decide) (by decide) fk
    have FI : Hid (FirstRP w l (.returned (.tuple #[.agg #[.int .i64 x.k, .string x.tn, .slice a1 an ac, .string x.rn, .string x.rt, .slice b1 bn bc, .slice c1 cn cc, .string x.nm, .slice d1 dn dc], .int .i64 (N8 : Int), .int .i64 0])) (set9 (w2.alloc (.cells #[.int .i64 x.k, .string x.tn, .slice a1 an ac, .string x.rn, .string x.rt, .slice b1 bn bc, .slice c1 cn cc, .string x.nm, .slice d1 dn dc] 43)) w.heap.size (.int .i64 x.k) (.string x.tn) (.slice a1 an ac) (.string x.rn) (.string x.rt) (.slice b1 bn bc) (.slice c1 cn cc) (.string x.nm) (.slice d1 dn dc))) := Lib.hid ⟨set9_below S3 (Nat.le_refl _) _ _ _ _ _ _ _ _ _, .inl ⟨x, N8, _, _, _, _, hs, rfl, hro3⟩⟩
    unfold set9 at r0 r1 r2 r3 r4 r5 r6 r7 r8
    clear hB2 S0 hr2 hb3 hr3 S3 f0 fk hs hx hro hro3 KL1 HR1 HC HN HN8 HB1 ea eb ec ed
    go_wp2_with fail
    refine bodyPost_ret (v := .tuple #[.agg #[.int .i64 x.k, .string x.tn, .slice a1 an ac, .string x.rn, .string x.rt, .slice b1 bn bc, .slice c1 cn cc, .string x.nm, .slice d1 dn dc], .int .i64 (N8 : Int), .int .i64 0]) ?_ rfl FI.out
    simp [results, Tryz.results13, go_sem, r0, r1, r2, r3, r4, r5, r6, r7, r8]
  · have hs : firstR l = none := by unfold firstR; rw [HC.out]; simp only [Option.bind_some]; rw [hx]; rfl
    unfold recV zeroR nilV nilS
    have S0 := HB1.out.trans (hB2.mono HB1.out.size)
    have hr2 := (hB2.block _ (lt_of_heap HR1.out)).trans HR1.out
    have hb3 := below_o w2 (.cells #[.int .i64 0, .string ⟨#[]⟩, .slice none 0 0, .string ⟨#[]⟩, .string ⟨#[]⟩, .slice none 0 0, .slice none 0 0, .string ⟨#[]⟩, .slice none 0 0] 43)
    have hr3 := (hb3.block _ (lt_of_heap hr2)).trans hr2
    have S3 := S0.trans (hb3.mono S0.size)
    obtain ⟨f0, fk⟩ := set9_at (u0 := .int .i64 0) (u1 := .string ⟨#[]⟩) (u2 := .slice none 0 0) (u3 := .string ⟨#[]⟩) (u4 := .string ⟨#[]⟩) (u5 := .slice none 0 0) (u6 := .slice none 0 0) (u7 := .string ⟨#[]⟩) (u8 := .slice none 0 0) hr3
    obtain ⟨q0, q1, q2, q3, q4, q5, q6, q7, q8, qf⟩ := nine_cells hr3
    obtain ⟨r0, r1, r2, r3, r4, r5, r6, r7, r8, _⟩ := nine_cells f0
    have FI : Hid (FirstRP w l (.returned (.tuple #[.agg #[.int .i64 0, .string ⟨#[]⟩, .slice none 0 0, .string ⟨#[]⟩, .string ⟨#[]⟩, .slice none 0 0, .slice none 0 0, .string ⟨#[]⟩, .slice none 0 0], .int .i64 (N8 : Int), .int .i64 8])) (set9 (w2.alloc (.cells #[.int .i64 0, .string ⟨#[]⟩, .slice none 0 0, .string ⟨#[]⟩, .string ⟨#[]⟩, .slice none 0 0, .slice none 0 0, .string ⟨#[]⟩, .slice none 0 0] 43)) w.heap.size (.int .i64 0) (.string ⟨#[]⟩) (.slice none 0 0) (.string ⟨#[]⟩) (.string ⟨#[]⟩) (.slice none 0 0) (.slice none 0 0) (.string ⟨#[]⟩) (.slice none 0 0))) := Lib.hid ⟨set9_below S3 (Nat.le_refl _) _ _ _ _ _ _ _ _ _, .inr ⟨hs, N8, 8, by omega, rfl⟩⟩
    unfold set9 at r0 r1 r2 r3 r4 r5 r6 r7 r8
    clear hB2 S0 hr2 hb3 hr3 S3 f0 fk hs hx KL1 HR1 HC HN HN8 HB1
    go_wp2_with fail
    refine bodyPost_ret (v := .tuple #[.agg #[.int .i64 0, .string ⟨#[]⟩, .slice none 0 0, .string ⟨#[]⟩, .string ⟨#[]⟩, .slice none 0 0, .slice none 0 0, .string ⟨#[]⟩, .slice none 0 0], .int .i64 (N8 : Int), .int .i64 8]) ?_ rfl FI.out
    simp [results, Tryz.results13, go_sem, r0, r1, r2, r3, r4, r5, r6, r7, r8]
end Go.Proofs.YtehfoaicohnpfaaGreatDoor
/- Contract of record.Scan. Conditions: the table of Sum; at most 1000000 bytes. -/
set_option maxRecDepth 100000
namespace Go.Proofs.YtehfoaicohnpfaaGreatDoor
open Go.RowKit Go.Maps Go.Sort Go.Lib

/-- a record with the values of its slices -/
abbrev RQ := RV × Value × Value × Value × Value
def rcells (q : RQ) : List Value := [.int .i64 q.1.k, .string q.1.tn, q.2.1, .string q.1.rn, .string q.1.rt, q.2.2.1, q.2.2.2.1, .string q.1.nm, q.2.2.2.2]
def fl9 (qs : List RQ) : List Value := qs.flatMap rcells
theorem fl9_snoc (l : List RQ) (x : RQ) : fl9 (l ++ [x]) = fl9 l ++ rcells x := by simp [fl9]
def ROk (B : Nat) (q : RQ) (w : World) : Prop := RecOk B q.1 q.2.1 q.2.2.1 q.2.2.2.1 q.2.2.2.2 w
/-- records of the call's own -/
structure RecsOk (B : Nat) (qs : List RQ) (v : Value) (w : World) : Prop where
  row : w.ownsRow B 43 9 v qs.length (fl9 qs)
  all : ∀ q ∈ qs, ROk B q w
theorem row_typ {w : World} {B : Nat} {e : TypeId} {k : Nat} {v : Value} {n : Nat} {xs : List Value} (h : w.ownsRow B e k v n xs) : ∀ g, v.ownBlock = some g → ∃ cur, w.heap[g]? = some (.cells cur e (0, 0)) := fun g hg => by
  rcases h.2 with ⟨e1, _⟩ | ⟨g', cap, cur, e1, _, hh, _⟩
  · rw [e1] at hg; simp [Value.ownBlock] at hg
  · rw [e1] at hg
    have : g' = g := by simpa [Value.ownBlock] using hg
    subst this
    exact ⟨cur, hh⟩
theorem RecOk.frame {B : Nat} {x : RV} {a b c d : Value} {w w' : World} (h : RecOk B x a b c d w) (hk : ∀ (k : Nat) (cs : Array Value) (t : TypeId), w.heap[k]? = some (.cells cs t (0, 0)) → t ≠ 43 → w'.heap[k]? = w.heap[k]?) : RecOk B x a b c d w' := by
  have hr : ∀ {e : TypeId} {k : Nat} {v : Value} {n : Nat} {xs : List Value}, e ≠ 43 → w.ownsRow B e k v n xs → w'.ownsRow B e k v n xs := fun he ho => ownsRow_of_block ho fun g hg => by
    obtain ⟨cur, hc⟩ := row_typ ho g hg
    exact hk g cur _ hc he
  obtain ⟨vs, hv, hw⟩ := h.ws
  exact ⟨hr (by decide) h.tc, hr (by decide) h.rd, hr (by decide) h.rm, vs, hr (by decide) hv, hw.of_block fun g cur hg _ => hk g cur _ hg (by decide)⟩
theorem RecsOk.next {B : Nat} {qs : List RQ} {v : Value} {w w' : World} (h : RecsOk B qs v w) (hb : Below w.heap.size w w') : RecsOk B qs v w' :=
  ⟨ownsRow_below h.row hb, fun q hq => RecOk.next (h.all q hq) hb⟩
theorem info_rec : (Tryz.prog.info? 43).map (fun i => (i.zero, i.size, i.bytes)) = some (some (.agg #[.int .i64 0, .string ⟨#[]⟩, .slice none 0 0, .string ⟨#[]⟩, .string ⟨#[]⟩, .slice none 0 0, .slice none 0 0, .string ⟨#[]⟩, .slice none 0 0]), 9, 168) := by kernel_rfl
/-- a record more -/
theorem RecsOk.push {B : Nat} {qs : List RQ} {v : Value} {w : World} (h : RecsOk B qs v w) (hB : B ≤ w.heap.size) {x : RV} {a1 b1 c1 d1 : Option Addr} {an ac bn bc cn cc dn dc : Nat} (hx : RecOk B x (.slice a1 an ac) (.slice b1 bn bc) (.slice c1 cn cc) (.slice d1 dn dc) w) (hl : qs.length ≤ 1000000) :
    ∃ v' X, (∀ ty, (Builtin.append_ #[25, 25] ty #[v, .slice (some ⟨w.heap.size, 0, none⟩) 1 1]).run Tryz.prog (w.alloc (.cells #[.int .i64 x.k, .string x.tn, .slice a1 an ac, .string x.rn, .string x.rt, .slice b1 bn bc, .slice c1 cn cc, .string x.nm, .slice d1 dn dc] 43)) = .ok v' X) ∧ w.heap.size ≤ X.heap.size ∧ Below B w X ∧ RecsOk B (qs ++ [(x, .slice a1 an ac, .slice b1 bn bc, .slice c1 cn cc, .slice d1 dn dc)]) v' X := by
  obtain ⟨v', X, hr, ho, hg, _⟩ := push_row (P := Tryz.prog) (t := 25) Tryz.underlying25 info_rec rfl (by omega) h.row hB [.int .i64 x.k, .string x.tn, .slice a1 an ac, .string x.rn, .string x.rt, .slice b1 bn bc, .slice c1 cn cc, .string x.nm, .slice d1 dn dc] rfl (fun u hu => by simp at hu; rcases hu with rfl | rfl | rfl | rfl | rfl | rfl | rfl | rfl | rfl <;> rfl) (by omega) (by omega)
  have keep : ∀ (k : Nat) (cs : Array Value) (t : TypeId), w.heap[k]? = some (.cells cs t (0, 0)) → t ≠ 43 → X.heap[k]? = w.heap[k]? := fun k cs t hk ht => hg.block k (lt_of_heap hk) (fun e => row_ne h.row hk ht k e.symm rfl)
  refine ⟨v', X, hr, hg.size, below_grown hg hB (ownsRow_ge h.row), ⟨?_, fun q hq => ?_⟩⟩
  · rw [List.length_append, fl9_snoc]
    exact ho
  · rcases List.mem_append.1 hq with hq | hq
    · exact RecOk.frame (h.all q hq) keep
    · rw [List.mem_singleton] at hq
      subst hq
      exact RecOk.frame hx keep
/-- what Scan answers -/
def ScanP (w : World) (l : List UInt8) (id : Nat) (e : Ending) (w' : World) : Prop := Below w.heap.size w w' ∧
  (((headL id).isPrefixOf l = true ∧ ∃ qs v, qs.map (·.1) = (scanL (l.drop (headL id).length)).1 ∧ e = .returned (.tuple #[v, .int .i64 (((headL id).length + (scanL (l.drop (headL id).length)).2 : Nat) : Int), .bool true]) ∧ RecsOk w.heap.size qs v w') ∨
    ((headL id).isPrefixOf l = false ∧ e = .returned (.tuple #[.slice none 0 0, .int .i64 0, .bool false])))
/-- how far a log is read -/
structure ScanRel (l : List UInt8) (TR : List RV) (TN : Nat) (qs : List RQ) (done : Nat) : Prop where
  recs : qs.map (·.1) ++ (scanL (l.drop done)).1 = TR
  num : done + (scanL (l.drop done)).2 = TN
  len : qs.length ≤ done
theorem below_boxR (w : World) (o : Obj) {w' : World} (h : Below w.heap.size w w') : Below w.heap.size w (w'.alloc o) := h.trans ((below_o w' o).mono h.size)
set_option maxHeartbeats 6400000 in
theorem scan_any {w : World} (hqd : Quads w) {p0 : Option Addr} {n k0 : Nat} {l : List UInt8} (h : Holds w (.slice p0 n k0) (u8s l)) (hl : l.length ≤ 1000000) (id : Nat) (hid : id < 18446744073709551616) :
    Calls Tryz.prog 5 #[.slice p0 n k0, .int .u64 (id : Int)] w (ScanP w l id) := by
  have KB := begin_any hqd id hid
  have hn := h.len
  rw [u8s_len] at hn
  obtain ⟨rfl, hk0⟩ := hn
  have HH := Lib.hid (fun (W : World) (hb : Below w.heap.size w W) => h.below hb)
  obtain ⟨H, hH⟩ : ∃ H, headL id = H := ⟨_, rfl⟩
  have hhl := head_len hid
  rw [hH] at KB hhl
  obtain ⟨P, hP⟩ : ∃ P, ScanP w l id = P := ⟨_, rfl⟩
  have hPe := hP
  unfold ScanP at hPe
  rw [hH] at hPe
  rw [hP]
  cases hpre : H.isPrefixOf l
  · have FIN := Lib.hid (fun (w' : World) (hb : Below w.heap.size w w') => (by rw [← hPe]; exact ⟨hb, .inr ⟨hpre, rfl⟩⟩ : P (.returned (.tuple #[.slice none 0 0, .int .i64 0, .bool false])) w'))
    generalize l.length = m at *
    clear hP hPe hhl hl h hH hqd hid
    go_enter Tryz.func5, Tryz.ntmps5
    go_wp2_with fail
    refine KB.mono ?_
    rintro e w1 ⟨v1, rfl, ho, hb⟩
    have hO : Holds w1 v1 (u8s H) := Holds.of_row (by rw [u8s_len]; exact ho)
    obtain ⟨va, vc, hv, _⟩ := ownsRow_form ho
    generalize H.length = hn at *
    subst hv
    have KP := prefix_any (HH.out w1 hb) hO
    rw [hpre] at KP
    have FI := FIN.out w1 hb
    clear ho hb hO KB HH FIN hpre
    go_wp2_with fail
    refine KP.mono ?_
    rintro e w2 ⟨rfl, rfl⟩
    go_wp2_with fail
    go_ret3
    exact FI
  have hple : H.length ≤ l.length := (List.isPrefixOf_iff_prefix.1 hpre).length_le
  obtain ⟨ad, rfl⟩ := h.ptr (by omega)
  have HQ := Lib.hid (fun (W : World) (hb : Below w.heap.size w W) => hqd.below hb hqd.1)
  obtain ⟨TR, hTR⟩ : ∃ TR, (scanL (l.drop H.length)).1 = TR := ⟨_, rfl⟩
  obtain ⟨TN, hTN⟩ : ∃ TN, H.length + (scanL (l.drop H.length)).2 = TN := ⟨_, rfl⟩
  have FIN := Lib.hid (fun (w' : World) (qs : List RQ) (v : Value) (hb : Below w.heap.size w w') (h1 : qs.map (·.1) = TR) (h2 : RecsOk w.heap.size qs v w') => (by rw [← hPe]; exact ⟨hb, .inl ⟨hpre, qs, v, by rw [hTR]; exact h1, by rw [hTN], h2⟩⟩ : P (.returned (.tuple #[v, .int .i64 (TN : Int), .bool true])) w'))
  have HR0 : Hid (ScanRel l TR TN [] H.length) := Lib.hid ⟨by simpa using hTR, hTN, by simp⟩
  have HP := Lib.hid hple
  have HL := Lib.hid hl
  obtain ⟨m, hm⟩ : ∃ m, m = l.length := ⟨_, rfl⟩
  rw [← hm] at HH hk0 HP HL ⊢
  have HM := Lib.hid hm
  have p2 : (m : Int) ≤ (k0 : Int) := Int.ofNat_le.2 hk0
  clear hP hPe hhl hl h hH hqd hid hple hTR hTN hm hk0
  go_enter Tryz.func5, Tryz.ntmps5
  go_wp2_with fail
  refine KB.mono ?_
  rintro e w1 ⟨v1, rfl, ho, hb⟩
  have hO : Holds w1 v1 (u8s H) := Holds.of_row (by rw [u8s_len]; exact ho)
  obtain ⟨va, vc, hv, _⟩ := ownsRow_form ho
  generalize H.length = hn at *
  subst hv
  have KP := prefix_any (HH.out w1 hb) hO
  rw [hpre] at KP
  have HB1 := Lib.hid hb
  clear ho hb hO KB hpre
  go_wp2_with fail
  refine KP.mono ?_
  rintro e w2 ⟨rfl, rfl⟩
  clear KP
  go_wp2_with fail
  go_loopw [8, 9] (fun s8 s9 wr => ∃ (qs : List RQ) (lv : Value) (dn : Nat), lv = s8 ∧ s9 = .int .i64 dn ∧ dn ≤ m ∧ Hid (RecsOk w.heap.size qs lv wr ∧ Below w.heap.size w wr) ∧ Hid (ScanRel l TR TN qs dn)) (fun _ k _ => m - (RowKit.intOf k).toNat)
  case atStart => exact ⟨[], _, hn, rfl, rfl, HP.out, Lib.hid ⟨⟨World.ownsRow_nil _ _ _ _, fun q hq => by cases hq⟩, HB1.out⟩, HR0⟩
  case round =>
    clear HR0 HB1
    obtain ⟨qs, lv, dn, rfl, rfl, hdm, HS, HR⟩ := hrel
    have b0 : (0 : Int) ≤ (dn : Int) := Int.natCast_nonneg dn
    have b1 : (dn : Int) ≤ (m : Int) := Int.ofNat_le.2 hdm
    obtain ⟨A, if1, if1', hH1⟩ := cut_ahead (HH.out wr HS.out.2) hdm
    have KF := rfirst_any (HQ.out wr HS.out.2) hH1 (by rw [List.length_drop]; have := HL.out; have := HM.out; omega)
    have HDM := Lib.hid hdm
    clear hH1 hdm
    go_wp2_with fail
    refine KF.mono ?_
    rintro e w3 ⟨hB3, ⟨x, n, a, b, c, d, hf, rfl, hro⟩ | ⟨hf, n, z, hz, rfl⟩⟩
    rotate_left
    · obtain ⟨e1, e2, _⟩ := HR.out
      rw [scan_stop hf] at e1 e2
      rw [List.append_nil] at e1
      have e2 : dn = TN := e2
      subst e2
      have FI := FIN.out _ qs lv (below_boxR w (.cells #[.int .i64 0, .string ⟨#[]⟩, .slice none 0 0, .string ⟨#[]⟩, .string ⟨#[]⟩, .slice none 0 0, .slice none 0 0, .string ⟨#[]⟩, .slice none 0 0] 43) (HS.out.2.trans (hB3.mono HS.out.2.size))) e1 ((HS.out.1.next hB3).next (below_o _ _))
      have t0 := int_ne0 hz
      unfold recV zeroR nilV nilS at *
      clear HS HR FIN hf hz hB3 KF e1
      go_wp2_with fail
      go_ret3
      exact FI
    · obtain ⟨a1, ac, b1', bc, c1, cc, d1, dc, rfl, rfl, rfl, rfl⟩ := hro.holds.form
      have hfl := firstR_len hf
      rw [List.length_drop, ← HM.out] at hfl
      have hlen : ∃ an bn cn dn, x.tc.length = an ∧ x.rd.length = bn ∧ x.rm.length = cn ∧ x.ws.length = dn := ⟨_, _, _, _, rfl, rfl, rfl, rfl⟩
      obtain ⟨an, bn, cn, dnn, ea, eb, ec, ed⟩ := hlen
      unfold recV
      rw [ea, eb, ec, ed] at hro ⊢
      have hBw := HS.out.2.trans (hB3.mono HS.out.2.size)
      have hb4 := below_o w3 (.cells #[.int .i64 x.k, .string x.tn, .slice a1 an ac, .string x.rn, .string x.rt, .slice b1' bn bc, .slice c1 cn cc, .string x.nm, .slice d1 dnn dc] 43)
      have S4 := (HS.out.1.next hB3).next hb4
      have hro4 := ((hro.rebase HS.out.2.size).next hb4)
      obtain ⟨v', X, hr, _, hbX, SX⟩ := S4.push (Nat.le_trans hBw.size hb4.size) hro4 (by have := HR.out.len; have := HDM.out; have := HL.out; omega)
      have hz : (w3.alloc (.cells #[.int .i64 x.k, .string x.tn, .slice a1 an ac, .string x.rn, .string x.rt, .slice b1' bn bc, .slice c1 cn cc, .string x.nm, .slice d1 dnn dc] 43)).heap.size = w3.heap.size + 1 := by simp
      rw [hz] at hr
      obtain ⟨e1, e2, e3⟩ := HR.out
      have es := scan_step hf
      rw [List.drop_drop] at es
      rw [es] at e1 e2
      have HR2 : Hid (ScanRel l TR TN (qs ++ [(x, .slice a1 an ac, .slice b1' bn bc, .slice c1 cn cc, .slice d1 dnn dc)]) (dn + n)) := Lib.hid ⟨by rw [← e1]; simp, by rw [← e2]; simp only; omega, by rw [List.length_append]; simp; omega⟩
      have HS2 : Hid (RecsOk w.heap.size (qs ++ [(x, .slice a1 an ac, .slice b1' bn bc, .slice c1 cn cc, .slice d1 dnn dc)]) v' X ∧ Below w.heap.size w X) := Lib.hid ⟨SX, (hBw.trans (hb4.mono hBw.size)).trans hbX⟩
      have hws := sum_wrap (a := dn) (b := n) (n := m) (by omega) (Nat.le_trans HL.out (by decide))
      have hdn : dn + n ≤ m := by have := HDM.out; omega
      have hmz : m - (dn + n) < m - dn := by omega
      have R1 := Lib.hid hr
      have HMZ := Lib.hid hmz
      clear HS HR hf hro hfl ea eb ec ed hBw hb4 S4 hro4 hr hbX SX hz e1 e2 e3 es hB3 KF FIN hmz
      go_wp2_with (at_builtin; refine wpList_append_run rfl _ _ 25 rfl rfl rfl (R1.out _) ?_)
      go_roundw
      case rel => exact ⟨_, v', dn + n, rfl, by go_num, hdn, HS2, HR2⟩
      case measure => have := HMZ.out; simp [RowKit.intOf]; omega
end Go.Proofs.YtehfoaicohnpfaaGreatDoor
/- The example that the record laws end in. Conditions: the table of Sum. -/
set_option maxRecDepth 100000
namespace Go.Proofs.YtehfoaicohnpfaaGreatDoor
open Go.RowKit Go.Maps Go.Sort Go.Lib

theorem dig_inj {i j : Nat} (hi : i < 18446744073709551616) (hj : j < 18446744073709551616) (h : dig i = dig j) : i = j := by
  have h1 := get_dig0 (u := i) [] hi
  have h2 := get_dig0 (u := j) [] hj
  rw [h, h2] at h1
  exact (Prod.mk.inj h1).1.symm
theorem head_short {i : Nat} (hi : i < 18446744073709551616) : (0 :: dig i : List UInt8).length ≤ 262144 := by
  have := dig_len10 hi
  rw [List.length_cons]; omega
theorem head_inj {i j : Nat} (hi : i < 18446744073709551616) (hj : j < 18446744073709551616) {r : List UInt8} (h : (headL j).isPrefixOf (headL i ++ r) = true) : j = i := by
  obtain ⟨r', hr⟩ := List.isPrefixOf_iff_prefix.1 h
  have h1 := unf_frame (b := 0 :: dig i) (ext := r) (head_short hi)
  have h2 := unf_frame (b := 0 :: dig j) (ext := r') (head_short hj)
  unfold headL at hr
  rw [hr, h1] at h2
  simp only [Option.some.injEq, List.cons.injEq, true_and] at h2
  exact (dig_inj hi hj h2).symm
theorem scan_nil : scanL [] = ([], 0) := scan_stop (by
  have : unfL [] = none := by unfold unfL; rw [if_pos (by simp)]
  unfold firstR
  rw [this]
  rfl)
def oneT : RV := tabV (⟨#[]⟩, [(⟨#[]⟩, 0)])
theorem one_good : goodR oneT = true := by decide
theorem one_inI : oneT.inI := ⟨fun c hc => by simp [oneT, tabV] at hc; subst hc; exact ⟨by decide, by decide⟩, fun m hm => by simp [oneT, tabV] at hm, fun r hr => by simp [oneT, tabV] at hr⟩
theorem one_fit : oneT.fit := ⟨by decide, by decide, by decide, by decide⟩
theorem one_holds (w : World) : RecH (w.alloc (.cells #[.string ⟨#[]⟩, .int .i64 0] 48)) oneT (.slice (some ⟨w.heap.size, 0, none⟩) 1 1) (.slice none 0 0) (.slice none 0 0) (.slice none 0 0) := by
  have hh := heap_alloc_new w (.cells #[.string ⟨#[]⟩, .int .i64 0] 48)
  refine ⟨⟨some ⟨w.heap.size, 0, none⟩, 1, rfl, Nat.le_refl _, .inr ⟨_, rfl, fun i x hx => ?_⟩⟩, Holds.nil _, ⟨none, 0, rfl, Nat.le_refl _, .inl ⟨rfl, rfl, rfl⟩⟩, [], Holds.nil _, rfl, fun i u r hu => by simp at hu⟩
  rcases Nat.eq_zero_or_pos i with rfl | hi
  · simp [oneT, tabV, colC] at hx
    subst hx
    simp only [Nat.zero_mul, Addr.add_at, Nat.zero_add]
    exact ⟨by rw [cell_of_row _ _ _ _ _ _ hh]; rfl, by rw [cell_of_row _ _ _ _ _ _ hh]; rfl⟩
  · rw [List.getElem?_eq_none (by simp [oneT, tabV]; omega)] at hx
    cases hx
set_option maxHeartbeats 3200000 in
theorem rlives_any {w : World} (hq : Quads w) : Calls Tryz.prog 4 #[] w fun e w' => e = .returned (.bool true) ∧ Below w.heap.size w w' := by
  have KB := begin_any hq 7 (by decide)
  have HQ := Lib.hid (fun (W : World) (hb : Below w.heap.size w W) => hq.below hb hq.1)
  have hl := head_len (id := 7) (by decide)
  have HS7 := Lib.hid (fun (W : World) (hb : Below w.heap.size w W) (a : Option Addr) (n c : Nat) (hh : Holds W (.slice a n c) (u8s (headL 7))) => scan_any (hq.below hb hq.1) hh (by omega) 7 (by decide))
  have HS8 := Lib.hid (fun (W : World) (hb : Below w.heap.size w W) (a : Option Addr) (n c : Nat) (hh : Holds W (.slice a n c) (u8s (headL 7))) => scan_any (hq.below hb hq.1) hh (by omega) 8 (by decide))
  have hp7 : (headL 7).isPrefixOf (headL 7) = true := by rw [List.isPrefixOf_iff_prefix]; exact List.prefix_refl _
  have hp8 : (headL 8).isPrefixOf (headL 7) = false := by
    rw [Bool.eq_false_iff]
    intro h
    have := head_inj (i := 7) (j := 8) (r := []) (by decide) (by decide) (by rw [List.append_nil]; exact h)
    omega
  have hd7 : (headL 7).drop (headL 7).length = [] := List.drop_length
  unfold ScanP at HS7 HS8
  rw [hp7, hd7, scan_nil] at HS7
  rw [hp8] at HS8
  have KG := Lib.hid (fun (W : World) => rgood_all (one_holds W) one_inI one_fit)
  rw [one_good] at KG
  have eo : recV oneT = fun a b c d => .agg #[.int .i64 1, .string ⟨#[]⟩, a, .string ⟨#[]⟩, .string ⟨#[]⟩, b, c, .string ⟨#[]⟩, d] := rfl
  rw [eo] at KG
  generalize headL 7 = H at *
  generalize headL 8 = H8 at *
  clear hq hl hp7 hp8 hd7 eo
  go_enter Tryz.func4, Tryz.ntmps4
  go_wp2_with fail
  refine KB.mono ?_
  rintro e w1 ⟨v1, rfl, ho, hb1⟩
  have hO : Holds w1 v1 (u8s H) := Holds.of_row (by rw [u8s_len]; exact ho)
  obtain ⟨va, vc, hv, _⟩ := ownsRow_form ho
  subst hv
  have K7 := HS7.out w1 hb1 _ _ _ hO
  have HO := Lib.hid hO
  have HB1 := Lib.hid hb1
  generalize H.length = n at *
  clear ho hb1 hO KB HS7
  go_wp2_with fail
  refine K7.mono ?_
  rintro e w2 ⟨hb2, ⟨_, qs, v2, hqs, rfl, hrs⟩ | ⟨hx, _⟩⟩
  rotate_left
  · cases hx
  have hq0 : qs = [] := List.map_eq_nil_iff.1 hqs
  subst hq0
  obtain ⟨va2, vc2, hv, _⟩ := ownsRow_form hrs.row
  simp only [List.length_nil] at hv
  subst hv
  have hB2 := HB1.out.trans (hb2.mono HB1.out.size)
  have K8 := HS8.out w2 hB2 _ _ _ (HO.out.below hb2)
  have HB2 := Lib.hid hB2
  clear hb2 hqs hrs hB2 K7 HS8 HO HB1
  go_wp2_with fail
  refine K8.mono ?_
  rintro e w3 ⟨hb3, ⟨hx, _⟩ | ⟨_, rfl⟩⟩
  · cases hx
  have hB3 := HB2.out.trans (hb3.mono HB2.out.size)
  have KG1 := KG.out w3
  have t0 : ((n : Int) == (n : Int)) = true := by simp
  have t1 : ((n + 0 : Nat) : Int) = (n : Int) := by simp
  have HB3 := Lib.hid hB3
  clear hb3 hB3 K8 KG HB2
  go_wp2_with fail
  refine KG1.mono ?_
  rintro e w4 ⟨rfl, hb4⟩
  have FIN := HB3.out.trans (((below_o w3 _).trans (hb4.mono (by simp))).mono HB3.out.size)
  clear hb4 KG1
  go_wp2_with fail
  go_ret
  exact ⟨rfl, FIN⟩
end Go.Proofs.YtehfoaicohnpfaaGreatDoor
/- Whether a record is more than is looked at: what great tells. Conditions: none. -/
set_option maxRecDepth 100000
namespace Go.Proofs.YtehfoaicohnpfaaGreatDoor
open Go.RowKit Go.Maps Go.Sort Go.Lib

def szS {α : Type} (f : α → Nat) (l : List α) : Nat := (l.map f).sum
theorem szS_take {α : Type} {f : α → Nat} {l : List α} {i : Nat} {x : α} (h : l[i]? = some x) : szS f (l.take (i + 1)) = szS f (l.take i) + f x := by
  unfold szS
  rw [List.take_add_one, h, Option.toList_some, List.map_append, List.sum_append]
  simp
theorem szS_le {α : Type} {f : α → Nat} : ∀ (l : List α) (i : Nat), szS f (l.take i) ≤ szS f l
  | [], i => by simp
  | x :: l, 0 => by simp [szS]
  | x :: l, i + 1 => by
    have := szS_le (f := f) l i
    simp only [szS, List.take_succ_cons, List.map_cons, List.sum_cons] at this ⊢
    omega
theorem szS_all {α : Type} {f : α → Nat} {M : Nat} : ∀ (l : List α), (∀ x ∈ l, f x ≤ M) → szS f l ≤ l.length * M
  | [], _ => by simp [szS]
  | x :: l, h => by
    have h1 := h x (List.mem_cons_self ..)
    have h2 := szS_all l (fun y hy => h y (List.mem_cons_of_mem _ hy))
    simp only [szS, List.map_cons, List.sum_cons, List.length_cons] at h2 ⊢
    rw [Nat.add_mul]
    omega
def fTc (c : ByteArray × Int) : Nat := c.1.size
def fRd (s : ByteArray) : Nat := s.size
def fRm (m : Int × ByteArray) : Nat := m.2.size
def fVs (v : VV) : Nat := v.s.size
def fW (r : List VV) : Nat := 1 + r.length + szS fVs r
def tot0 (x : RV) : Nat := x.nm.size + x.tn.size + x.rn.size + x.rt.size + x.rd.length + x.rm.length + x.tc.length
def tot4 (x : RV) : Nat := tot0 x + szS fTc x.tc + szS fRd x.rd + szS fRm x.rm + szS fW x.ws
/-- a record whose sizes add up without a wrap -/
structure Fits (x : RV) : Prop where
  tc : x.tc.length ≤ 8
  rd : x.rd.length ≤ 8
  rm : x.rm.length ≤ 16
  ws : x.ws.length ≤ 200
  wl : ∀ r ∈ x.ws, r.length ≤ 8
  t1 : x.nm.size ≤ 281474976710656
  t2 : x.tn.size ≤ 281474976710656
  t3 : x.rn.size ≤ 281474976710656
  t4 : x.rt.size ≤ 281474976710656
  s1 : ∀ c ∈ x.tc, fTc c ≤ 281474976710656
  s2 : ∀ c ∈ x.rd, fRd c ≤ 281474976710656
  s3 : ∀ c ∈ x.rm, fRm c ≤ 281474976710656
  s4 : ∀ r ∈ x.ws, ∀ v ∈ r, fVs v ≤ 281474976710656
theorem Fits.bound {x : RV} (h : Fits x) : tot4 x ≤ 1152921504606846976 := by
  have a1 := Nat.le_trans (szS_all x.tc h.s1) (Nat.mul_le_mul_right _ h.tc)
  have a2 := Nat.le_trans (szS_all x.rd h.s2) (Nat.mul_le_mul_right _ h.rd)
  have a3 := Nat.le_trans (szS_all x.rm h.s3) (Nat.mul_le_mul_right _ h.rm)
  have a4 := Nat.le_trans (szS_all (f := fW) (M := 9 + 8 * 281474976710656) x.ws (fun r hr => by
    have b1 := Nat.le_trans (szS_all r (h.s4 r hr)) (Nat.mul_le_mul_right _ (h.wl r hr))
    have b2 := h.wl r hr
    unfold fW
    omega)) (Nat.mul_le_mul_right _ h.ws)
  have t1 := h.t1
  have t2 := h.t2
  have t3 := h.t3
  have t4 := h.t4
  have l1 := h.tc
  have l2 := h.rd
  have l3 := h.rm
  unfold tot4 tot0
  omega
theorem wrap_sum {G : Prop} {N N' : Int} {a b : Nat} (h : IntKind.i64.wrap (N + (b : Int)) = N') (hN : G → N = (a : Int)) (hb : G → a + b ≤ 1152921504606846976) : G → N' = ((a + b : Nat) : Int) := fun g => by
  have h1 := hN g
  have h2 := hb g
  rw [← h, h1, IntKind.wrap_i64]
  omega
theorem val_len {v : VV} (h : v.good = true) (hi : v.inI) : v.bytes.length ≤ 20 + v.s.size := by
  have hk := goodV_kind h
  have h1 := dig_len10 (u := v.k.toNat) (by omega)
  have h2 := dig_len10 (zig_zag v.n hi.1 hi.2).2
  unfold VV.bytes VV.body
  rw [List.length_append]
  split
  · omega
  · split
    · rcases good_cases h with rfl | ⟨e, _⟩ | ⟨e, _⟩ | ⟨_, _, hs⟩ | ⟨e, _⟩
      · rename_i h1; simp [VV.none_] at h1
      · omega
      · omega
      · have := dig_len10 (u := v.s.size) (by omega)
        rw [List.length_append, tx_list]; omega
      · omega
    · simp; omega
theorem flat_len : ∀ (r : List VV), (∀ v ∈ r, v.good = true ∧ v.inI) → (flatV r).length ≤ 20 * r.length + szS fVs r
  | [], _ => by simp [flatV]
  | v :: r, h => by
    have h1 := h v (List.mem_cons_self ..)
    have h2 := flat_len r (fun y hy => h y (List.mem_cons_of_mem _ hy))
    have h3 := val_len h1.1 h1.2
    rw [flatV_cons, norm_of h1.1, List.length_append, List.length_cons]
    simp only [szS, List.map_cons, List.sum_cons, fVs] at h2 ⊢
    omega
theorem many_sum {α : Type} {e : α → List UInt8} {f : α → Nat} {k : Nat} : ∀ (l : List α), (∀ x ∈ l, (e x).length ≤ k + f x) → (manyL e l).length ≤ k * l.length + szS f l
  | [], _ => by simp [manyL]
  | x :: l, h => by
    have h1 := h x (List.mem_cons_self ..)
    have h2 := many_sum l (fun y hy => h y (List.mem_cons_of_mem _ hy))
    rw [manyL_cons, List.length_append, List.length_cons]
    simp only [szS, List.map_cons, List.sum_cons] at h2 ⊢
    rw [Nat.mul_add]
    omega
theorem txL_le (s : ByteArray) (h : s.size < 18446744073709551616) : (txL s).length ≤ 10 + s.size := by
  have := dig_len10 h
  unfold txL
  rw [List.length_append, tx_list]
  omega
/-- what is not more than is looked at has its bytes in a frame -/
theorem small_bytes {x : RV} (hg : goodR x = true) (hi : x.inI) (hf : Fits x) (ht : tot4 x ≤ 100000) : (bytR x).length ≤ 262144 := by
  have t1 := hf.t1
  have t2 := hf.t2
  have t3 := hf.t3
  have t4 := hf.t4
  have hk := inL_len x.k
  unfold tot4 tot0 at ht
  unfold bytR
  rw [List.length_append]
  have hd : ∀ n : Nat, n ≤ 1000000000 → (dig n).length ≤ 10 := fun n hn => dig_len10 (by omega)
  rcases good_shape hg with ⟨e, h1, h2⟩ | ⟨e, h1, h2⟩ | ⟨e, h1⟩
  · have ek : x.k = 1 := by rw [e]; rfl
    have eb : bodL x = tabL x := by unfold bodL; rw [if_pos ek]
    have a1 := many_sum (e := colL) (f := fTc) (k := 20) x.tc (fun c hc => by
      have b1 := txL_le c.1 (by have := hf.s1 c hc; unfold fTc at this; omega)
      have b2 := inL_len c.2
      unfold colL fTc
      rw [List.length_append]
      omega)
    have a2 := txL_le x.tn (by omega)
    have a3 := hd x.tc.length (by omega)
    rw [eb]
    unfold tabL
    simp only [List.length_append]
    omega
  · have ek : x.k = 2 := by rw [e]; rfl
    have eb : bodL x = rolL x := by unfold bodL; rw [if_neg (by omega), if_pos ek]
    have a1 := many_sum (e := txL) (f := fRd) (k := 10) x.rd (fun c hc => by
      have b1 := txL_le c (by have := hf.s2 c hc; unfold fRd at this; omega)
      unfold fRd
      omega)
    have a2 := many_sum (e := meaL) (f := fRm) (k := 20) x.rm (fun c hc => by
      have b1 := txL_le c.2 (by have := hf.s3 c hc; unfold fRm at this; omega)
      have b2 := inL_len c.1
      unfold meaL fRm
      rw [List.length_append]
      omega)
    have a3 := txL_le x.rn (by omega)
    have a4 := txL_le x.rt (by omega)
    have a5 := hd x.rd.length (by omega)
    have a6 := hd x.rm.length (by omega)
    rw [eb]
    unfold rolL
    simp only [List.length_append]
    omega
  · have ek : x.k = 3 := by rw [e]; rfl
    have eb : bodL x = batL x := by unfold bodL; rw [if_neg (by omega), if_neg (by omega)]
    obtain ⟨n, n1, n8, w1, w2, hr⟩ := bat_iff.1 h1
    have a1 := many_sum (e := rowL) (f := fW) (k := 180) x.ws (fun r hrm => by
      have hrl := (hr r hrm).1
      have b1 := flat_len r (fun v hv => ⟨(hr r hrm).2 v hv, hi.ws r hrm v hv⟩)
      have b2 := hd r.length (by omega)
      have b4 := Nat.le_trans (szS_all r (hf.s4 r hrm)) (Nat.mul_le_mul_right _ (show r.length ≤ 8 by omega))
      have b5 : (bytesV r).length < 18446744073709551616 := by unfold bytesV; rw [List.length_append]; omega
      have b3 := dig_len10 b5
      unfold rowL blL fW
      rw [List.length_append]
      unfold bytesV at *
      rw [List.length_append] at *
      omega)
    have a2 := txL_le x.nm (by omega)
    have a3 := hd x.ws.length (by omega)
    rw [eb]
    unfold batL
    simp only [List.length_append]
    omega
end Go.Proofs.YtehfoaicohnpfaaGreatDoor
/- Whether a record is more than is looked at: great. Conditions: none. -/
set_option maxRecDepth 100000
namespace Go.Proofs.YtehfoaicohnpfaaGreatDoor
open Go.RowKit Go.Maps Go.Sort Go.Lib

/-- what great tells -/
def GrP (w : World) (x : RV) (e : Ending) (w' : World) : Prop := ∃ b, e = .returned (.bool b) ∧ (b = false → Fits x → tot4 x ≤ 100000) ∧ Below w.heap.size w w'
theorem wrap_one {G : Prop} {L : Int} {n : Nat} (h : IntKind.i64.wrap (1 + (n : Int)) = L) (hb : G → n ≤ 1152921504606846976) : G → L = ((1 + n : Nat) : Int) := fun g => by
  have := hb g
  rw [← h, IntKind.wrap_i64]
  omega
theorem wrap_sum' {G : Prop} {N N' L : Int} {a b : Nat} (h : IntKind.i64.wrap (N + L) = N') (hN : G → N = (a : Int)) (hL : G → L = (b : Int)) (hb : G → a + b ≤ 1152921504606846976) : G → N' = ((a + b : Nat) : Int) := fun g => by
  have h1 := hN g
  have h2 := hb g
  have h3 := hL g
  rw [← h, h1, h3, IntKind.wrap_i64]
  omega
theorem wrap_next {i n : Nat} (h : i < n) (hn : n ≤ 9223372036854775807) : IntKind.i64.wrap ((i : Int) + 1) = (i : Int) + 1 := by rw [IntKind.wrap_i64]; omega
end Go.Proofs.YtehfoaicohnpfaaGreatDoor
