/- The texts DigCovR DigZ DigBounds, one behind the other; each one's own comment says what it holds. -/
import Derived.Test.YtahaoodklfmddaaDigCov
import Derived.Test.YtahaoodklfmddaaDigestBoundsRowGA
import Derived.Test.YtahaoodklfmddaaDigMerge
/- How wrong a rank can be. Conditions: as stated. -/
set_option maxRecDepth 100000
namespace Go.Proofs.Ytahaoodklfmddaa
open Go.RowKit Go.Maps Go.Sort Go.Shelf

/-- how wrong a rank can be -/
theorem Cov.rank {k n : Nat} {xs : List Nat} {L D : DL} (h : Cov k n xs L) (hk : 1 ≤ k) (hI : LInv n L) (hR : RankedG L D) {r : Int} (h1 : 1 ≤ r) (h2 : r ≤ n) :
    ∃ v, rankG D r = some v ∧ ((xs.countP (fun y => decide (y < v)) : Nat) : Int) < r + 64 * ((n / k : Nat) : Int) ∧ r ≤ (xs.countP (fun y => decide (y ≤ v)) : Nat) := by
  have hT : total L = n := hI.inv.sum
  obtain ⟨v, e, g1, g2⟩ := rank_csum hI.inv.pos hR h1 (by omega)
  have same : ∀ f : Nat → Nat → Bool, csum (fun c => f c (gr c)) L = csum (fun c => f c (gR c)) L := fun f => by
    have : ∀ {M : DL}, (∀ q ∈ M, NodeC q.1) → csum (fun c => f c (gr c)) M = csum (fun c => f c (gR c)) M := fun {M} hM => by
      induction M with
      | nil => rfl
      | cons p q ih =>
        show (if f p.1 (gr p.1) then p.2 else 0) + csum (fun c => f c (gr c)) q = (if f p.1 (gR p.1) then p.2 else 0) + csum (fun c => f c (gR c)) q
        rw [ih fun x hx => hM x (List.mem_cons_of_mem _ hx), gr_gR (hM p (List.mem_cons_self ..))]
    exact this hI.low
  refine ⟨v, e, ?_, ?_⟩
  · have a1 := h.low v
    rw [same fun _ g => decide (g < v)] at g1
    have a2 : csum (fun c => decide (lR c < v)) L ≤ csum (fun c => decide (gR c < v)) L + csum (fun c => decide (lR c < v) && decide (v ≤ gR c)) L := by
      have hp := hI.inv.pos
      clear g1 g2 a1 same hR hI h hT
      induction L with
      | nil => simp [csum]
      | cons p q ih =>
        have ih := ih fun x hx => hp x (List.mem_cons_of_mem _ hx)
        have hpp := hp p (List.mem_cons_self ..)
        show (if decide (lR p.1 < v) then p.2 else 0) + csum (fun c => decide (lR c < v)) q ≤ ((if decide (gR p.1 < v) then p.2 else 0) + csum (fun c => decide (gR c < v)) q) + ((if (decide (lR p.1 < v) && decide (v ≤ gR p.1)) then p.2 else 0) + csum (fun c => decide (lR c < v) && decide (v ≤ gR c)) q)
        by_cases b1 : lR p.1 < v <;> by_cases b2 : gR p.1 < v <;> simp [b1, b2] <;> omega
    have a3 := csum_kinds (f := fun c => decide (lR c < v) && decide (v ≤ gR c)) (g := fun j c => decide (c = cd (j + 1) (v / 2 ^ (j + 1)))) hI.inv.pos 64 (fun q hq hf => by
      simp only [Bool.and_eq_true, decide_eq_true_eq] at hf
      obtain ⟨j, hj, hc⟩ := about_one hf.1 hf.2 (hI.low q hq).1
      exact ⟨j, hj, decide_eq_true hc⟩)
    have a4 := sum_le (fun j => csum (fun c => decide (c = cd (j + 1) (v / 2 ^ (j + 1)))) L) ((n / k : Nat) : Int) 64 (fun j _ => by
      show csum (fun c => decide (c = cd (j + 1) (v / 2 ^ (j + 1)))) L ≤ _
      rw [csum_at hI.inv.asc]
      have := h.few (cd (j + 1) (v / 2 ^ (j + 1))) (Nat.le_trans (show 18446744073709551616 ≤ (j + 1) * 18446744073709551616 by omega) (Nat.le_add_right _ _))
      rw [Int.natCast_ediv]
      exact Int.le_ediv_of_mul_le (by omega) this)
    omega
  · have a1 := h.upto v
    rw [same fun _ g => decide (g ≤ v)] at g2
    omega
end Go.Proofs.Ytahaoodklfmddaa
/- A digest that covers the numbers that went in, as a thing; its calls. Conditions: none. -/
set_option maxRecDepth 100000
namespace Go.Proofs.Ytahaoodklfmddaa
open Go.RowKit Go.Maps Go.Sort Go.Shelf

def Dy (p k n : Nat) (xs : List Nat) (L : DL) : Thing := fun T i w => ∃ b, DkAt T i w p k n b L ∧ Rest k n L ∧ Cov k n xs L
def Dz (p k n : Nat) (xs : List Nat) : Thing := fun T i w => ∃ L, Dy p k n xs L T i w
theorem Dy.framed (p k n : Nat) (xs : List Nat) (L : DL) : Framed (Dy p k n xs L) := by
  rintro T T' i w w' ⟨b, h, hG⟩ hT hw
  exact ⟨b, ⟨(hw p (lt_of_heap h.head) (.inr h.tp)).trans h.head, (hT p (lt_of_heap h.head)).trans h.tp, h.map.of_block (hw b h.map.lt (.inr h.tb)), (hT b h.map.lt).trans h.tb⟩, hG⟩
theorem Dz.framed (p k n : Nat) (xs : List Nat) : Framed (Dz p k n xs) := by
  rintro T T' i w w' ⟨L, h⟩ hT hw
  exact ⟨L, Dy.framed p k n xs L T T' i w w' h hT hw⟩
theorem fitP_cov {T : Tags} {i : Nat} {w w' : World} {p k n : Nat} {xs : List Nat} {L : DL} {e : Ending} (h : FitP T i w p k n L e w') (hI : LInv n L) (hC : Cov k n xs L) (h1 : 1 ≤ k) (h2 : k ≤ 64) (h3 : n ≤ 1125899906842624) : Goes T i w (Dz p k n xs) w' := by
  obtain ⟨rfl, L', f1, f2, f3, T', n1, e1, b, hd⟩ := h
  refine ⟨T', n1, e1, L', b, hd, ⟨h1, h2, h3, f3, ?_⟩, ?_⟩
  · by_cases hl : L.length ≤ 3 * k + 64
    · rw [f1 hl]
      exact hl
    · have := fit_end (f2 (by omega)) hI
      exact few_nodes this.1 h1 h2 this.2
  · by_cases hl : L.length ≤ 3 * k + 64
    · rw [f1 hl]
      exact hC
    · exact hC.fit h1 hI (f2 (by omega))
section
variable {w0 w : World} {E : List (Nat × Thing)} {i p k n : Nat} {xs : List Nat}
theorem side_zfine (h : Side w0 ((i, Dk p (DV.none_k k)) :: E) w) (h1 : 1 ≤ k) (h2 : k ≤ 64) : Side w0 ((i, Dz p k 0 []) :: E) w := by
  obtain ⟨T, h⟩ := h
  refine ⟨T, { h with at_ := fun e he => ?_ }⟩
  rcases List.mem_cons.1 he with rfl | he
  · obtain ⟨_, b, hd, _⟩ := h.at_ _ (List.mem_cons_self ..)
    exact ⟨Dz.framed p k 0 [], [], b, hd, rest_none h1 h2, cov_none k⟩
  · exact h.at_ e (List.mem_cons_of_mem _ he)
theorem side_zins (h : Side w0 ((i, Dz p k n xs) :: E) w) (hi : ∀ e ∈ E, e.1 ≠ i) {x : Nat} (hx : x < 18446744073709551616) (hn : n < 1125899906842624) :
    Calls Try.prog 9 #[.pointer (some ⟨p, 0, none⟩), .int .u64 (x : Int)] w fun e w' => e = .returned (.tuple #[]) ∧ Hid (Side w0 ((i, Dz p k (n + 1) (xs ++ [x])) :: E) w') :=
  (h.step hi (Dz.framed p k (n + 1) (xs ++ [x])) (Pr := fun e => e = .returned (.tuple #[])) fun _ _ hA => by
    obtain ⟨L, b, hd, hR, hC⟩ := hA _ (List.mem_cons_self ..)
    have hl : L.length < 100000 := by have := hR.len; have := hR.k64; omega
    exact (ins_at hd hR.k1 hR.k64 hR.inv hn hl x hx).mono fun e w' h => ⟨h.1, fitP_cov h (hR.inv.ins hx hl) (hC.ins hR.inv.inv.asc hx) hR.k1 hR.k64 hn⟩).mono fun _ _ ⟨a, b⟩ => ⟨a, b⟩
theorem side_zmerge (h : Side w0 ((i, Dz p k n xs) :: E) w) (hi : ∀ e ∈ E, e.1 ≠ i) {j q m : Nat} {ys : List Nat} (hx : (j, Dz q k m ys) ∈ E) (hn : n + m ≤ 1125899906842624) :
    Calls Try.prog 11 #[.pointer (some ⟨p, 0, none⟩), .pointer (some ⟨q, 0, none⟩)] w fun e w' => e = .returned (.int .i64 0) ∧ Hid (Side w0 ((i, Dz p k (n + m) (xs ++ ys)) :: E) w') :=
  (h.step hi (Dz.framed p k (n + m) (xs ++ ys)) (Pr := fun e => e = .returned (.int .i64 0)) fun _ _ hA => by
    obtain ⟨L, b, hd, hR, hC⟩ := hA _ (List.mem_cons_self ..)
    obtain ⟨N, b2, hd2, hR2, hC2⟩ := hA _ (List.mem_cons_of_mem _ hx)
    obtain ⟨o0, o1, o2, _⟩ := hd2.cells
    have hl : L.length + N.length ≤ 100000 := by have := hR.len; have := hR2.len; have := hR.k64; omega
    exact (merge_at hd o0 o1 o2 hd2.map hR.k1 hR.k64 hR.inv hR2.inv hn hl).mono fun e w' h => ⟨h.1, fitP_cov h.2 (hR.inv.addAll hR2.inv hl) (hC.addAll hC2 hR.inv.inv.asc hR2.inv.inv.asc) hR.k1 hR.k64 hn⟩).mono fun _ _ ⟨a, b⟩ => ⟨a, b⟩
theorem side_zfix (h : Side w0 ((i, Dz p k n xs) :: E) w) : ∃ L, Rest k n L ∧ Cov k n xs L ∧ Side w0 ((i, Df p k n L) :: E) w := by
  obtain ⟨T, h⟩ := h
  obtain ⟨_, L, b, hd, hR, hC⟩ := h.at_ _ (List.mem_cons_self ..)
  refine ⟨L, hR, hC, T, { h with at_ := fun e he => ?_ }⟩
  rcases List.mem_cons.1 he with rfl | he
  · exact ⟨Df.framed p k n L, b, hd, hR⟩
  · exact h.at_ e (List.mem_cons_of_mem _ he)
theorem side_fcount {L : DL} (h : Side w0 E w) (hx : (i, Df p k n L) ∈ E) : Calls Try.prog 16 #[.pointer (some ⟨p, 0, none⟩)] w fun e w' => e = .returned (.int .i64 n) ∧ w = w' := by
  obtain ⟨T, b, hA, hR⟩ := side_thing h hx
  exact count_at hR.k1 hA.cells.1 hA.cells.2.1
theorem side_fnodes {L : DL} (h : Side w0 E w) (hx : (i, Df p k n L) ∈ E) : Calls Try.prog 17 #[.pointer (some ⟨p, 0, none⟩)] w (NodesAt w L) := by
  obtain ⟨T, b, hA, hR⟩ := side_thing h hx
  exact nodes_at hA.cells.1 hR.k1 hA.cells.2.2.1 hA.map hR.inv.short
end
end Go.Proofs.Ytahaoodklfmddaa
/- The walk of DigestBounds. Conditions: none. -/
set_option maxRecDepth 100000
namespace Go.Proofs.Ytahaoodklfmddaa
open Go.RowKit Go.Maps Go.Sort Go.Shelf

set_option maxHeartbeats 12800000 in
theorem bounds_walk {w : World} (n xa xr : Nat) {a : Option Addr} {len cap : Nat} {l : List UInt64} (hv : Holds w (.slice a len cap) (u64s l)) (hl : l.length = len) :
    Calls Try.prog 4 #[.int .u64 (n : Int), .slice a len cap, .agg #[.int .u64 (xa : Int), .int .u64 (xr : Int)]] w fun e w' => e = .returned (.bool true) ∧ Below w.heap.size w w' := by
  have KL := lives_any
  obtain ⟨ob, hob⟩ : ∃ ob, Obj.cells #[.int .u64 (xa : Int), .int .u64 (xr : Int)] 45 = ob := ⟨_, rfl⟩
  obtain ⟨B, hB⟩ : ∃ B, w.heap.size = B := ⟨_, rfl⟩
  obtain ⟨W0, hW0⟩ : ∃ W0, w.alloc ob = W0 := ⟨_, rfl⟩
  have S0 : Side w [(3, Box B ob)] W0 := by rw [← hW0, ← hB]; exact (Side.nil w).alloc 3 ob
  obtain ⟨k, hk⟩ : ∃ k, n % 64 + 1 = k := ⟨_, rfl⟩
  obtain ⟨M, hM⟩ : ∃ M, n % 64 = M := ⟨_, rfl⟩
  have hkM : k = M + 1 := by omega
  have hk64 : k ≤ 64 := by omega
  have mM : (n : Int).tmod 64 = (M : Int) := by rw [Int.tmod_eq_emod_of_nonneg (by omega)]; omega
  have mM2 : (n : Int) % 64 = (M : Int) := by omega
  have wM : IntKind.i64.wrap (M : Int) = (M : Int) := by rw [IntKind.wrap_i64]; omega
  have wk : IntKind.i64.wrap (1 + (M : Int)) = (k : Int) := by rw [IntKind.wrap_i64]; omega
  have wk2 : IntKind.i64.wrap ((M : Int) + 1) = (k : Int) := by rw [IntKind.wrap_i64]; omega
  have KN := side_dnew S0 1 (k := k) (by omega) hk64
  have KN2 := Lib.hid (fun (E : List (Nat × Thing)) (W : World) (h : Side w E W) => side_dnew h 2 (k := k) (by omega) hk64)
  obtain ⟨xs, hxs⟩ : ∃ xs, l.map UInt64.toNat = xs := ⟨_, rfl⟩
  have hxl : xs.length = len := by rw [← hxs, List.length_map, hl]
  have hxb : ∀ x ∈ xs, x < 18446744073709551616 := fun x hx => by
    rw [← hxs] at hx
    obtain ⟨u, _, rfl⟩ := List.mem_map.1 hx
    exact u.toNat_lt
  have hcells : ∀ m x : Nat, xs[m]? = some x → (u64s l)[m]? = some (Value.int .u64 (x : Int)) := fun m x hx => by
    rw [← hxs, List.getElem?_map] at hx
    obtain ⟨u, hu, rfl⟩ := Option.map_eq_some_iff.1 hx
    unfold u64s
    rw [List.getElem?_map, hu]
    rfl
  have HC := Lib.hid (fun (W : World) (hb : Below w.heap.size w W) (m x : Nat) (hx : xs[m]? = some x) => (show ∃ ad : Addr, a = some ad ∧ W.cell? (ad.add m) = some (.int .u64 (x : Int)) from by
    obtain ⟨ad, rfl⟩ := hv.ptr (by have := (List.getElem?_eq_some_iff.1 hx).1; omega)
    exact ⟨ad, rfl, (hv.below hb).cell (hcells m x hx)⟩))
  have hcap : len ≤ cap := hv.len.2
  have HXB := Lib.hid hxb
  have HXL := Lib.hid hxl
  have HKK := Lib.hid hkM.symm
  have HOB := Lib.hid hob
  clear hv hl hxs hxb hcells hxl hM hkM hk S0
  by_cases hlk : 400 < len
  · have t0 : decide ((400 : Int) < (len : Int)) = true := decide_eq_true (by omega)
    have t1 : decide (400 < len) = true := decide_eq_true hlk
    clear hlk HC HXB HXL hcap HOB
    go_enter Try.func4, Try.ntmps4
    go_wp2_with fail
    (try rw [hob, hW0])
    refine KN.mono ?_
    rintro e w1 ⟨p, rfl, h1⟩
    clear KN
    have K2 := KN2.out _ _ h1.out
    clear h1
    go_wp2_with fail
    refine K2.mono ?_
    rintro e w2 ⟨q, rfl, h2⟩
    clear K2
    go_wp2_with fail
    refine (KL _).mono ?_
    rintro e w' ⟨rfl, hb⟩
    have FB := Lib.hid (h2.out.base.trans (hb.mono h2.out.base.size))
    clear h2 hb
    go_wp2_with fail
    go_ret
    exact ⟨rfl, FB.out⟩
  have t0 : decide ((400 : Int) < (len : Int)) = false := decide_eq_false (by omega)
  have t1 : decide (400 < len) = false := decide_eq_false hlk
  have HLK := Lib.hid (Nat.le_of_not_lt hlk)
  have HK := Lib.hid (show 1 ≤ k ∧ k ≤ 64 from ⟨by rw [← HKK.out]; omega, hk64⟩)
  obtain ⟨A, hA⟩ : ∃ A, xa % (len + 1) = A := ⟨_, rfl⟩
  have hAl : A ≤ len := by have := Nat.mod_lt xa (show 0 < len + 1 by omega); omega
  have hlen1 : IntKind.i64.wrap ((len : Int) + 1) = (len : Int) + 1 := by have := HLK.out; rw [IntKind.wrap_i64]; omega
  have hlen2 : IntKind.u64.wrap ((len : Int) + 1) = (len : Int) + 1 := by have := HLK.out; rw [IntKind.wrap_u64]; omega
  have hA1 : (xa : Int).tmod ((len : Int) + 1) = (A : Int) := by rw [Int.tmod_eq_emod_of_nonneg (by omega), ← hA]; rfl
  have hA2 : (xa : Int) % ((len : Int) + 1) = (A : Int) := by rw [← hA]; rfl
  have wA : IntKind.i64.wrap (A : Int) = (A : Int) := by have := HLK.out; rw [IntKind.wrap_i64]; omega
  have z1 : ¬ ((len : Int) + 1 = 0) := by omega
  clear hlk hk64 hA
  go_enter Try.func4, Try.ntmps4
  go_wp2_with fail
  (try rw [hob, hW0])
  clear hW0
  refine KN.mono ?_
  rintro e w1 ⟨p, rfl, h1⟩
  clear KN
  have K2 := KN2.out _ _ (side_zfine h1.out HK.out.1 HK.out.2)
  clear h1
  go_wp2_with fail
  refine K2.mono ?_
  rintro e w2 ⟨q, rfl, h2⟩
  clear K2 KN2
  have h3 := side_zfine h2.out HK.out.1 HK.out.2
  have hbx := h3.heap (i := 3) (b := B) (ob := ob) (by simp)
  rw [← HOB.out] at hbx
  have d0 : w2.cell? ⟨B, 0, none⟩ = some (.int .u64 (xa : Int)) := by rw [cell_of_row _ _ _ _ _ _ hbx]; rfl
  have H3 := Lib.hid (h3.sub (E' := [(1, Dz p k 0 []), (2, Dz q k 0 []), (3, Box B ob)]) (by simp))
  (try rw [hB])
  clear hbx h3 h2
  go_wp2_with fail
  clear t0 t1 mM mM2 wM wk wk2 hlen1 hlen2 hA1 hA2 wA z1
  go_loopw [62] (fun s wr => ∃ (m : Nat) (ys zs : List Nat), s = .int .i64 m ∧ m ≤ len ∧ Hid ((ys ++ zs).Perm (xs.take m)) ∧ Hid (Side w [(1, Dz p k ys.length ys), (2, Dz q k zs.length zs), (3, Box B ob)] wr)) (fun s _ => len - (intOf s).toNat)
  case atStart => exact ⟨0, [], [], rfl, Nat.zero_le _, Lib.hid (by simp), H3⟩
  case round =>
    clear H3
    obtain ⟨m, ys, zs, rfl, hm, HP, HS⟩ := hrel
    have hlp := HP.out.length_eq
    rw [List.length_append, List.length_take, HXL.out] at hlp
    by_cases hlt : m < len
    · obtain ⟨x, hx⟩ : ∃ x, xs[m]? = some x := ⟨xs[m]'(by rw [HXL.out]; exact hlt), List.getElem?_eq_getElem _⟩
      have hS := HS.out
      obtain ⟨ad, rfl, c0⟩ := HC.out wr hS.base m x hx
      have hxx := HXB.out x (List.mem_of_getElem? hx)
      have hw64 := wi_small hlt (by have := HLK.out; omega)
      have b0 : (0 : Int) ≤ (m : Int) := Int.natCast_nonneg m
      have b1 : (m : Int) < (len : Int) := Int.ofNat_lt.2 hlt
      have htk : xs.take (m + 1) = xs.take m ++ [x] := by
        obtain ⟨hl2, e2⟩ := List.getElem?_eq_some_iff.1 hx
        rw [List.take_succ_eq_append_getElem hl2, e2]
      by_cases hmA : m < A
      · have u0 : decide ((m : Int) < (A : Int)) = true := decide_eq_true (by omega)
        have u1 : decide (m < A) = true := decide_eq_true hmA
        have KI := side_zins hS (by simp) hxx (by have := HLK.out; omega)
        have HPN : Hid ((ys ++ [x] ++ zs).Perm (xs.take (m + 1))) := Lib.hid (by
          rw [htk]
          refine List.Perm.trans ?_ (HP.out.append_right [x])
          simp only [List.append_assoc]
          exact List.Perm.append_left ys List.perm_append_comm)
        clear hx hS HS hxx htk HP hmA hlp
        go_wp2_with fail
        refine KI.mono ?_
        rintro e w4 ⟨rfl, S4⟩
        have S5 : Hid (Side w [(1, Dz p k (ys ++ [x]).length (ys ++ [x])), (2, Dz q k zs.length zs), (3, Box B ob)] w4) := Lib.hid (by rw [List.length_append]; exact S4.out)
        clear KI S4
        go_wp2_with fail
        go_roundw
        case rel => exact ⟨m + 1, ys ++ [x], zs, by go_num, hlt, HPN, S5⟩
        case measure => simp [intOf]; omega
      · have u0 : decide ((m : Int) < (A : Int)) = false := decide_eq_false (by omega)
        have u1 : decide (m < A) = false := decide_eq_false hmA
        have hS2 : Side w [(2, Dz q k zs.length zs), (1, Dz p k ys.length ys), (3, Box B ob)] wr := hS.sub (by simp)
        have KI := side_zins hS2 (by simp) hxx (by have := HLK.out; omega)
        have HPN : Hid ((ys ++ (zs ++ [x])).Perm (xs.take (m + 1))) := Lib.hid (by
          rw [htk, ← List.append_assoc]
          exact HP.out.append_right [x])
        clear hx hS hS2 HS hxx htk HP hmA hlp
        go_wp2_with fail
        refine KI.mono ?_
        rintro e w4 ⟨rfl, S4⟩
        have S5 : Hid (Side w [(1, Dz p k ys.length ys), (2, Dz q k (zs ++ [x]).length (zs ++ [x])), (3, Box B ob)] w4) := Lib.hid (by rw [List.length_append]; exact S4.out.sub (by simp))
        clear KI S4
        go_wp2_with fail
        go_roundw
        case rel => exact ⟨m + 1, ys, zs ++ [x], by go_num, hlt, HPN, S5⟩
        case measure => simp [intOf]; omega
    · obtain rfl : m = len := by omega
      have hpx : (ys ++ zs).Perm xs := by
        have := HP.out
        rw [show xs.take m = xs by rw [← HXL.out]; exact List.take_length] at this
        exact this
      have hyz : ys.length + zs.length = m := by omega
      have KMg := side_zmerge HS.out (by simp) (j := 2) (q := q) (m := zs.length) (ys := zs) (by simp) (by have := HLK.out; omega)
      rw [hyz] at KMg
      have HPX := Lib.hid hpx
      clear HS HP hpx hlp hyz
      go_wp2_with fail
      refine KMg.mono ?_
      rintro e w4 ⟨rfl, S4⟩
      clear KMg
      obtain ⟨L, hR, hC, hS⟩ := side_zfix S4.out
      have KCnt := side_fcount hS (i := 1) (p := p) (k := k) (n := m) (L := L) (by simp)
      have HR := Lib.hid hR
      have HCV := Lib.hid hC
      have HS4 := Lib.hid hS
      have m0 : ((m : Int) != (m : Int)) = false := by simp
      obtain ⟨Mq, hMq⟩ : ∃ Mq, m / k = Mq := ⟨_, rfl⟩
      have q1 : (m : Int).tdiv (k : Int) = (Mq : Int) := by rw [Int.tdiv_eq_ediv_of_nonneg (by omega), ← hMq]; simp
      have q2 : (m : Int) / (k : Int) = (Mq : Int) := by rw [← hMq]; simp
      have hMm : Mq ≤ m := by rw [← hMq]; exact Nat.div_le_self m k
      have wq : IntKind.i64.wrap (Mq : Int) = (Mq : Int) := by have := HLK.out; rw [IntKind.wrap_i64]; omega
      have k0 : ¬ ((k : Int) = 0) := by have := HK.out.1; omega
      have k0' : ¬ (k = 0) := by have := HK.out.1; omega
      have HMQ := Lib.hid hMq
      clear S4 hR hC hS hMq
      go_wp2_with fail
      refine KCnt.mono ?_
      rintro e w5 ⟨rfl, rfl⟩
      have KNd := side_fnodes HS4.out (i := 1) (p := p) (k := k) (n := m) (L := L) (by simp)
      clear KCnt
      go_wp2_with fail
      refine KNd.mono ?_
      rintro e w5 ⟨g, c, rfl, hg, hc, hRow, hb5⟩
      have S5 := Lib.hid (HS4.out.below hb5)
      have HRow := Lib.hid (And.intro hRow.2 (fun (j : Nat) (y : Nat × Int) (hy : L[j]? = some y) => hRow.cell hy))
      have hTL : total L = m := HR.out.inv.inv.sum
      have HTL := Lib.hid hTL
      have hLl : L.length ≤ 256 := by have := HR.out.len; have := HK.out.2; omega
      have HLL := Lib.hid hLl
      clear KNd hb5 hRow hg HS4 hTL hLl
      go_wp2_with fail
      clear q1 q2 k0 k0'
      go_loopw [14, 95] (fun s14 s wr => ∃ (j : Nat) (t : Int), s14 = .int .i64 t ∧ s = .int .i64 j ∧ j ≤ L.length ∧ Hid (t = total (L.take j)) ∧ Hid (Below w5.heap.size w5 wr)) (fun _ s _ => L.length - (intOf s).toNat)
      case atStart => exact ⟨0, 0, rfl, rfl, Nat.zero_le _, Lib.hid rfl, Lib.hid (Below.refl _ _)⟩
      case round =>
        obtain ⟨j, t, rfl, rfl, hj, HT, HB⟩ := hrel
        by_cases hlt2 : j < L.length
        · obtain ⟨y, hy⟩ : ∃ y, L[j]? = some y := ⟨_, List.getElem?_eq_getElem hlt2⟩
          obtain ⟨r0, r1, r2⟩ := HRow.out.2 j y hy
          have hym : y ∈ L := List.mem_of_getElem? hy
          have x0 : wr.cell? ⟨g, j * 3, none⟩ = some (.int .i64 ((y.1 / 18446744073709551616 : Nat) : Int)) := by rw [HB.out.cell (lt_of_cell r0)]; exact r0
          have x1 : wr.cell? ⟨g, j * 3 + 1, none⟩ = some (.int .u64 ((y.1 % 18446744073709551616 : Nat) : Int)) := by rw [HB.out.cell (lt_of_cell r1)]; exact r1
          have x2 : wr.cell? ⟨g, j * 3 + 2, none⟩ = some (.int .i64 y.2) := by rw [HB.out.cell (lt_of_cell r2)]; exact r2
          have hyp := HR.out.inv.inv.pos y hym
          have hts : total (L.take (j + 1)) = t + y.2 := by rw [take_more hy, total_app, HT.out]; simp [total, csum]
          have htt := total_take HR.out.inv (j + 1)
          have hmb : y.2 ≤ Mq ∨ y.1 / 18446744073709551616 = 0 := by
            by_cases h0 : y.1 / 18446744073709551616 = 0
            · exact .inr h0
            · left
              have h1 := HCV.out.few y.1 (by omega)
              rw [dcnt_mem HR.out.inv.inv.asc (id := y.1) (c := y.2) hym] at h1
              have h2 : y.2 ≤ (m : Int) / (k : Int) := Int.le_ediv_of_mul_le (by have := HK.out.1; omega) h1
              have h3 : (m : Int) / (k : Int) = (Mq : Int) := by rw [← HMQ.out]; simp
              omega
          have wt : IntKind.i64.wrap (t + y.2) = t + y.2 := by have := HLK.out; rw [IntKind.wrap_i64]; omega
          have u0 : decide (y.2 < (1 : Int)) = false := decide_eq_false (by omega)
          have hw66 : IntKind.i64.wrap ((j : Int) + 1) = (j : Int) + 1 := by have := HLL.out; rw [IntKind.wrap_i64]; omega
          have b2 : (j : Int) < (L.length : Int) := Int.ofNat_lt.2 hlt2
          have HTS : Hid (t + y.2 = total (L.take (j + 1))) := Lib.hid hts.symm
          have HBN : Hid (Below w5.heap.size w5 (wr.alloc (.cells #[.int .i64 ((y.1 / 18446744073709551616 : Nat) : Int), .int .u64 ((y.1 % 18446744073709551616 : Nat) : Int), .int .i64 y.2] 50))) := Lib.hid (HB.out.alloc HB.out.size _)
          obtain ⟨lv, hlv⟩ : ∃ lv : Int, ((y.1 / 18446744073709551616 : Nat) : Int) = lv := ⟨_, rfl⟩
          obtain ⟨pr, hpr⟩ : ∃ pr : Int, ((y.1 % 18446744073709551616 : Nat) : Int) = pr := ⟨_, rfl⟩
          obtain ⟨cn, hcn⟩ : ∃ cn : Int, y.2 = cn := ⟨_, rfl⟩
          have hl0 : 0 ≤ lv := by omega
          have hmb2 : cn ≤ Mq ∨ lv = 0 := by omega
          rw [hlv, hpr, hcn] at HBN
          rw [hlv] at x0
          rw [hpr] at x1
          rw [hcn] at x2 u0 wt HTS
          clear hy r0 r1 r2 hym hyp hts htt hmb hlv hpr hcn HT
          by_cases hlz : 0 < lv
          · have u1 : decide ((0 : Int) < lv) = true := decide_eq_true hlz
            have u2 : decide ((Mq : Int) < cn) = false := decide_eq_false (by omega)
            clear hl0 hmb2 hlz
            go_wp2_with fail
            go_roundw
            case rel => exact ⟨j + 1, t + cn, rfl, by go_num, hlt2, HTS, HBN⟩
            case measure => simp [intOf]; omega
          · have u1 : decide ((0 : Int) < lv) = false := decide_eq_false hlz
            clear hl0 hmb2 hlz
            go_wp2_with fail
            go_roundw
            case rel => exact ⟨j + 1, t + cn, rfl, by go_num, hlt2, HTS, HBN⟩
            case measure => simp [intOf]; omega
        · obtain rfl : j = L.length := by omega
          obtain rfl : t = m := by have := HT.out; rw [List.take_length, HTL.out] at this; exact this
          have S6 := S5.out.below HB.out
          have KN2 := side_fnodes S6 (i := 1) (p := p) (k := k) (n := m) (L := L) (by simp)
          have HS6 := Lib.hid S6
          have w3k : IntKind.i64.wrap (3 * (k : Int)) = 3 * (k : Int) := by have := HK.out.2; rw [IntKind.wrap_i64]; omega
          have w3l : IntKind.i64.wrap (3 * (k : Int) + 64) = 3 * (k : Int) + 64 := by have := HK.out.2; rw [IntKind.wrap_i64]; omega
          have u3 : decide (3 * (k : Int) + 64 < (L.length : Int)) = false := decide_eq_false (by have := HR.out.len; omega)
          clear S6 HT HB S5 HRow
          go_wp2_with fail
          refine KN2.mono ?_
          rintro e w7 ⟨g7, c7, rfl, hg7, hc7, hRow7, hb7⟩
          have S7 := Lib.hid (HS6.out.below hb7)
          clear KN2 hg7 hc7 hRow7 hb7 HS6
          by_cases hm0 : m = 0
          · have u4 : ((m : Int) == (0 : Int)) = true := by simp [hm0]
            have u4' : (m == 0) = true := by simp [hm0]
            have FB := Lib.hid S7.out.base
            clear S7
            subst hm0
            go_wp2_with fail
            refine (KL _).mono ?_
            rintro e w' ⟨rfl, hb⟩
            have FB2 := Lib.hid (FB.out.trans (hb.mono FB.out.size))
            clear hb FB
            go_wp2_with fail
            go_ret
            exact ⟨rfl, FB2.out⟩
          · have u4 : ((m : Int) == (0 : Int)) = false := by simp [hm0]
            have u4' : (m == 0) = false := by simp [hm0]
            obtain ⟨R, hR⟩ : ∃ R, xr % m = R := ⟨_, rfl⟩
            have hRm : R < m := by have := Nat.mod_lt xr (show 0 < m by omega); omega
            have hR1 : (xr : Int).tmod (m : Int) = (R : Int) := by rw [Int.tmod_eq_emod_of_nonneg (by omega), ← hR]; rfl
            have hR2 : (xr : Int) % (m : Int) = (R : Int) := by rw [← hR]; rfl
            have wR : IntKind.i64.wrap (R : Int) = (R : Int) := by have := HLK.out; rw [IntKind.wrap_i64]; omega
            have wR1 : IntKind.i64.wrap (1 + (R : Int)) = ((R + 1 : Nat) : Int) := by have := HLK.out; rw [IntKind.wrap_i64]; omega
            have wm1 : IntKind.u64.wrap (m : Int) = (m : Int) := by have := HLK.out; rw [IntKind.wrap_u64]; omega
            have z2 : ¬ ((m : Int) = 0) := by omega
            have hbx := S7.out.heap (i := 3) (b := B) (ob := ob) (by simp)
            rw [← HOB.out] at hbx
            have d1 : w7.cell? ⟨B, 1, none⟩ = some (.int .u64 (xr : Int)) := by rw [cell_of_row _ _ _ _ _ _ hbx]; rfl
            have hS8 : Side w [(1, Df p k m L)] w7 := S7.out.sub (by simp)
            obtain ⟨r, hr⟩ : ∃ r, R + 1 = r := ⟨_, rfl⟩
            rw [hr] at wR1
            have KR := side_frank hS8 (r := (r : Int)) (by omega) (by omega)
            have HS8 := Lib.hid hS8
            have HRr := Lib.hid (show 1 ≤ r ∧ r ≤ m by omega)
            clear hR hRm hbx hS8 hr S7
            go_wp2_with fail
            refine KR.mono ?_
            rintro e w8 ⟨D, hRD, rfl, hb8⟩
            obtain ⟨v, e1, e2, e3⟩ := HCV.out.rank HK.out.1 HR.out.inv hRD (r := (r : Int)) (by have := HRr.out; omega) (by have := HRr.out; omega)
            rw [HPX.out.countP_eq, HMQ.out] at e2
            rw [HPX.out.countP_eq] at e3
            have HCT := Lib.hid (And.intro e2 e3)
            have FB := Lib.hid (HS8.out.base.trans (hb8.mono HS8.out.base.size))
            have HMM := Lib.hid hMm
            rw [e1]
            clear KR hRD e1 e2 e3 hb8 HS8 d1 u3 u4 u4' hR1 hR2 wR wR1 wm1 z2 w3k w3l wq hMm
            unfold rankV
            go_wp2_with fail
            go_loopw [20, 21, 151] (fun s20 s21 s wr => ∃ (j cb cu : Nat), s20 = .int .i64 cb ∧ s21 = .int .i64 cu ∧ s = .int .i64 j ∧ j ≤ m ∧ cb ≤ j ∧ cu ≤ j ∧ Hid (cb = (xs.take j).countP (fun y => decide (y < v)) ∧ cu = (xs.take j).countP (fun y => decide (y ≤ v))) ∧ Hid (Below w.heap.size w wr)) (fun _ _ s _ => m - (intOf s).toNat)
            case atStart => exact ⟨0, 0, 0, rfl, rfl, rfl, Nat.zero_le _, Nat.le_refl _, Nat.le_refl _, Lib.hid ⟨by simp, by simp⟩, FB⟩
            case round =>
              obtain ⟨j, cb, cu, rfl, rfl, rfl, hj, hcb, hcu, HN, HB⟩ := hrel
              by_cases hlt3 : j < m
              · obtain ⟨x, hx⟩ : ∃ x, xs[j]? = some x := ⟨xs[j]'(by rw [HXL.out]; exact hlt3), List.getElem?_eq_getElem _⟩
                obtain ⟨ad, rfl, c0⟩ := HC.out wr HB.out j x hx
                have hw67 := wi_small hlt3 (by have := HLK.out; omega)
                have wb : IntKind.i64.wrap ((cb : Int) + 1) = (cb : Int) + 1 := by have := HLK.out; rw [IntKind.wrap_i64]; omega
                have wu : IntKind.i64.wrap ((cu : Int) + 1) = (cu : Int) + 1 := by have := HLK.out; rw [IntKind.wrap_i64]; omega
                have b0 : (0 : Int) ≤ (j : Int) := Int.natCast_nonneg j
                have b1 : (j : Int) < (m : Int) := Int.ofNat_lt.2 hlt3
                have g1 := countP_take (fun y => decide (y < v)) hx
                have g2 := countP_take (fun y => decide (y ≤ v)) hx
                rw [← HN.out.1] at g1
                rw [← HN.out.2] at g2
                clear hx HN
                by_cases hxv : x < v
                · have t0 : decide ((x : Int) < (v : Int)) = true := decide_eq_true (by omega)
                  have t0' : decide (x < v) = true := decide_eq_true hxv
                  have t1 : decide ((x : Int) ≤ (v : Int)) = true := decide_eq_true (by omega)
                  have t1' : decide (x ≤ v) = true := decide_eq_true (by omega)
                  have HN2 : Hid (cb + 1 = (xs.take (j + 1)).countP (fun y => decide (y < v)) ∧ cu + 1 = (xs.take (j + 1)).countP (fun y => decide (y ≤ v))) := Lib.hid ⟨by rw [g1, if_pos t0'], by rw [g2, if_pos t1']⟩
                  clear g1 g2 hxv
                  go_wp2_with fail
                  go_roundw
                  case rel => exact ⟨j + 1, cb + 1, cu + 1, by go_num, by go_num, by go_num, hlt3, by omega, by omega, HN2, HB⟩
                  case measure => simp [intOf]; omega
                · have t0 : decide ((x : Int) < (v : Int)) = false := decide_eq_false (by omega)
                  have t0' : decide (x < v) = false := decide_eq_false hxv
                  by_cases hxe : x = v
                  · have t1 : decide ((x : Int) ≤ (v : Int)) = true := decide_eq_true (by omega)
                    have t1' : decide (x ≤ v) = true := decide_eq_true (by omega)
                    have HN2 : Hid (cb = (xs.take (j + 1)).countP (fun y => decide (y < v)) ∧ cu + 1 = (xs.take (j + 1)).countP (fun y => decide (y ≤ v))) := Lib.hid ⟨by rw [g1, if_neg (by rw [t0']; simp)]; rfl, by rw [g2, if_pos t1']⟩
                    clear g1 g2 hxv hxe
                    go_wp2_with fail
                    go_roundw
                    case rel => exact ⟨j + 1, cb, cu + 1, rfl, by go_num, by go_num, hlt3, by omega, by omega, HN2, HB⟩
                    case measure => simp [intOf]; omega
                  · have t1 : decide ((x : Int) ≤ (v : Int)) = false := decide_eq_false (by omega)
                    have t1' : decide (x ≤ v) = false := decide_eq_false (by omega)
                    have HN2 : Hid (cb = (xs.take (j + 1)).countP (fun y => decide (y < v)) ∧ cu = (xs.take (j + 1)).countP (fun y => decide (y ≤ v))) := Lib.hid ⟨by rw [g1, if_neg (by rw [t0']; simp)]; rfl, by rw [g2, if_neg (by rw [t1']; simp)]; rfl⟩
                    clear g1 g2 hxv hxe
                    go_wp2_with fail
                    go_roundw
                    case rel => exact ⟨j + 1, cb, cu, rfl, rfl, by go_num, hlt3, by omega, by omega, HN2, HB⟩
                    case measure => simp [intOf]; omega
              · obtain rfl : j = m := by omega
                have hn := HN.out
                rw [show xs.take j = xs by rw [← HXL.out]; exact List.take_length] at hn
                have hct := HCT.out
                rw [← hn.1, ← hn.2] at hct
                have hMM := HMM.out
                have hrr := HRr.out
                have w64 : IntKind.i64.wrap (64 * (Mq : Int)) = 64 * (Mq : Int) := by have := HLK.out; rw [IntKind.wrap_i64]; omega
                have w65 : IntKind.i64.wrap ((r : Int) + 64 * (Mq : Int)) = (r : Int) + 64 * (Mq : Int) := by have := HLK.out; rw [IntKind.wrap_i64]; omega
                have w66 : IntKind.i64.wrap ((r : Int) - 64 * (Mq : Int)) = (r : Int) - 64 * (Mq : Int) := by have := HLK.out; rw [IntKind.wrap_i64]; omega
                have z0 : decide ((cb : Int) < (r : Int) + 64 * (Mq : Int)) = true := decide_eq_true hct.1
                have z1 : decide ((r : Int) - 64 * (Mq : Int) ≤ (cu : Int)) = true := decide_eq_true (by omega)
                clear hn hct hMM hrr HN FB
                go_wp2_with fail
                refine (KL _).mono ?_
                rintro e w' ⟨rfl, hb⟩
                have FB2 := Lib.hid (HB.out.trans (hb.mono HB.out.size))
                clear hb HB
                go_wp2_with fail
                go_ret
                exact ⟨rfl, FB2.out⟩
end Go.Proofs.Ytahaoodklfmddaa
