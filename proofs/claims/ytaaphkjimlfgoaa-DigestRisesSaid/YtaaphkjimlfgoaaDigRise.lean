/- A digest at rest as a thing, its calls, and the law DigestRises, walked. Conditions: none. -/
import Derived.Test.YtaaphkjimlfgoaaDigIns
import Derived.Test.YtaaphkjimlfgoaaDigBound2
import Derived.Test.YtaaphkjimlfgoaaDigFewLaw
set_option maxRecDepth 100000
namespace Go.Proofs.Ytaaphkjimlfgoaa
open Go.RowKit Go.Maps Go.Sort Go.Shelf

/-- a digest at rest: what every call leaves -/
structure Rest (k n : Nat) (L : DL) : Prop where
  k1 : 1 ≤ k
  k64 : k ≤ 64
  n50 : n ≤ 1125899906842624
  inv : LInv n L
  len : L.length ≤ 3 * k + 64
def Df (p k n : Nat) (L : DL) : Thing := fun T i w => ∃ b, DkAt T i w p k n b L ∧ Rest k n L
def Dx (p k n : Nat) : Thing := fun T i w => ∃ L, Df p k n L T i w
theorem Df.framed (p k n : Nat) (L : DL) : Framed (Df p k n L) := by
  rintro T T' i w w' ⟨b, h, hG⟩ hT hw
  exact ⟨b, ⟨(hw p (lt_of_heap h.head) (.inr h.tp)).trans h.head, (hT p (lt_of_heap h.head)).trans h.tp, h.map.of_block (hw b h.map.lt (.inr h.tb)), (hT b h.map.lt).trans h.tb⟩, hG⟩
theorem Dx.framed (p k n : Nat) : Framed (Dx p k n) := by
  rintro T T' i w w' ⟨L, h⟩ hT hw
  exact ⟨L, Df.framed p k n L T T' i w w' h hT hw⟩
theorem rest_none {k : Nat} (h1 : 1 ≤ k) (h2 : k ≤ 64) : Rest k 0 [] :=
  ⟨h1, h2, Nat.zero_le _, ⟨⟨List.Pairwise.nil, (fun q hq => by cases hq), rfl⟩, (fun q hq => by cases hq), Nat.zero_le _⟩, Nat.zero_le _⟩
theorem Rest.le {k n : Nat} {L : DL} (h : Rest k n L) {q : Nat × Int} (hq : q ∈ L) : 1 ≤ q.2 ∧ q.2 ≤ n := by
  refine ⟨h.inv.inv.pos q hq, ?_⟩
  have h1 := all_le h.inv.inv q.1
  have h2 := dcnt_nonneg h.inv.inv.pos (sibC q.1)
  have h3 := dcnt_nonneg h.inv.inv.pos (upC q.1)
  have h4 := dcnt_mem h.inv.inv.asc (id := q.1) (c := q.2) hq
  unfold allC at h1
  omega
theorem fitP_rest {T : Tags} {i : Nat} {w w' : World} {p k n : Nat} {L : DL} {e : Ending} (h : FitP T i w p k n L e w') (hI : LInv n L) (h1 : 1 ≤ k) (h2 : k ≤ 64) (h3 : n ≤ 1125899906842624) : e = .returned (.tuple #[]) ∧ Goes T i w (Dx p k n) w' := by
  obtain ⟨rfl, L', f1, f2, f3, T', n1, e1, b, hd⟩ := h
  refine ⟨rfl, T', n1, e1, L', b, hd, h1, h2, h3, f3, ?_⟩
  by_cases hl : L.length ≤ 3 * k + 64
  · rw [f1 hl]
    exact hl
  · have := fit_end (f2 (by omega)) hI
    exact few_nodes this.1 h1 h2 this.2
section
variable {w0 w : World} {p k n : Nat}
theorem side_fine (h : Side w0 [(1, Dk p (DV.none_k k))] w) (h1 : 1 ≤ k) (h2 : k ≤ 64) : Side w0 [(1, Dx p k 0)] w := by
  obtain ⟨T, h⟩ := h
  refine ⟨T, { h with at_ := fun e he => ?_ }⟩
  rw [List.mem_singleton] at he
  subst he
  obtain ⟨_, b, hd, _⟩ := h.at_ _ (List.mem_cons_self ..)
  exact ⟨Dx.framed p k 0, [], b, hd, rest_none h1 h2⟩
theorem side_fix (h : Side w0 [(1, Dx p k n)] w) : ∃ L, Rest k n L ∧ Side w0 [(1, Df p k n L)] w := by
  obtain ⟨T, h⟩ := h
  obtain ⟨_, L, b, hd, hR⟩ := h.at_ _ (List.mem_cons_self ..)
  refine ⟨L, hR, T, { h with at_ := fun e he => ?_ }⟩
  rw [List.mem_singleton] at he
  subst he
  exact ⟨Df.framed p k n L, b, hd, hR⟩
theorem side_xins (h : Side w0 [(1, Dx p k n)] w) {x : Nat} (hx : x < 18446744073709551616) (hn : n < 1125899906842624) :
    Calls Try.prog 12 #[.pointer (some ⟨p, 0, none⟩), .int .u64 (x : Int)] w fun e w' => e = .returned (.tuple #[]) ∧ Hid (Side w0 [(1, Dx p k (n + 1))] w') :=
  (h.step (fun _ h => by cases h) (Dx.framed p k (n + 1)) (Pr := fun e => e = .returned (.tuple #[])) fun _ _ hA => by
    obtain ⟨L, b, hd, hR⟩ := hA _ (List.mem_cons_self ..)
    have hl : L.length < 100000 := by have := hR.len; have := hR.k64; omega
    exact (ins_at hd hR.k1 hR.k64 hR.inv hn hl x hx).mono fun e w' h => fitP_rest h (hR.inv.ins hx hl) hR.k1 hR.k64 hn).mono fun _ _ ⟨a, b⟩ => ⟨a, b⟩
theorem side_frank {L : DL} (h : Side w0 [(1, Df p k n L)] w) {r : Int} (h1 : 1 ≤ r) (h2 : r ≤ n) :
    Calls Try.prog 21 #[.pointer (some ⟨p, 0, none⟩), .int .i64 r] w fun e w' => ∃ D, RankedG L D ∧ e = .returned (rankV (rankG D r)) ∧ Below w.heap.size w w' := by
  obtain ⟨T, b, hA, hR⟩ := side_thing h (List.mem_cons_self ..)
  exact rank_all hA hR.k1 hR.inv.short hR.inv.low (fun q hq => ⟨(hR.le hq).1, by have := (hR.le hq).2; have := hR.n50; omega⟩) h1 h2 (by have := hR.n50; omega)
theorem side_fout {L : DL} (h : Side w0 [(1, Df p k n L)] w) {r : Int} (hr : r < 1 ∨ (n : Int) < r) :
    Calls Try.prog 21 #[.pointer (some ⟨p, 0, none⟩), .int .i64 r] w fun e w' => e = .returned (rankV none) ∧ w = w' := by
  obtain ⟨T, b, hA, hR⟩ := side_thing h (List.mem_cons_self ..)
  exact rank_out hR.k1 hA.cells.1 hA.cells.2.1 hr
end
/-- a rank's number, by the counts below it and up to it -/
theorem rank_csum {L D : DL} (hL : ∀ q ∈ L, 1 ≤ q.2) (hR : RankedG L D) {r : Int} (h1 : 1 ≤ r) (h2 : r ≤ total L) :
    ∃ v, rankG D r = some v ∧ csum (fun c => decide (gr c < v)) L < r ∧ r ≤ csum (fun c => decide (gr c ≤ v)) L := by
  have hDp : ∀ q ∈ D, 1 ≤ q.2 := fun q hq => hL q (hR.perm.mem_iff.1 hq)
  have hT : total D = total L := csum_perm _ hR.perm
  obtain ⟨A, p, B, hD, e, g1, g2⟩ := rankG_spec D r h1 (by omega) hDp
  have ho := hR.le
  rw [hD] at ho
  obtain ⟨_, o2, o3⟩ := List.pairwise_append.1 ho
  have o4 := List.pairwise_cons.1 o2
  refine ⟨gr p.1, e, ?_, ?_⟩
  · rw [← csum_perm _ hR.perm, hD, csum_append]
    have c1 : csum (fun c => decide (gr c < gr p.1)) A ≤ total A := csum_le_total _ fun q hq => hDp q (by rw [hD]; simp [hq])
    have c2 : csum (fun c => decide (gr c < gr p.1)) (p :: B) = 0 := csum_no fun q hq => by
      rcases List.mem_cons.1 hq with rfl | hq
      · simp
      · have := o4.1 q hq
        simp
        omega
    omega
  · rw [← csum_perm _ hR.perm, hD, csum_append]
    have c1 : csum (fun c => decide (gr c ≤ gr p.1)) A = total A := csum_all fun q hq => by
      have := o3 q hq p (List.mem_cons_self ..)
      simpa using this
    have c2 : p.2 ≤ csum (fun c => decide (gr c ≤ gr p.1)) (p :: B) := by
      show p.2 ≤ (if decide (gr p.1 ≤ gr p.1) then p.2 else 0) + csum _ B
      rw [if_pos (by simp)]
      have : 0 ≤ csum (fun c => decide (gr c ≤ gr p.1)) B := csum_nonneg _ fun q hq => hDp q (by rw [hD]; simp [hq])
      omega
    omega
theorem csum_le {f g : Nat → Bool} (h : ∀ c, f c = true → g c = true) : ∀ {L : DL}, (∀ q ∈ L, 1 ≤ q.2) → csum f L ≤ csum g L
  | [], _ => Int.le_refl _
  | p :: r, hp => by
    have ih := csum_le h fun q hq => hp q (List.mem_cons_of_mem _ hq)
    have h1 := hp p (List.mem_cons_self ..)
    have h2 := h p.1
    show (if f p.1 then p.2 else 0) + csum f r ≤ (if g p.1 then p.2 else 0) + csum g r
    cases hf : f p.1 with
    | true => rw [h2 hf]; simp; omega
    | false => cases g p.1 <;> simp <;> omega
/-- ranks rise -/
theorem ranks_rise {L : DL} (hL : ∀ q ∈ L, 1 ≤ q.2) {r s : Int} {u v : Nat} (hrs : r ≤ s) (h1 : csum (fun c => decide (gr c < u)) L < r) (h2 : s ≤ csum (fun c => decide (gr c ≤ v)) L) : u ≤ v := by
  refine Nat.le_of_not_lt fun hlt => ?_
  have := csum_le (f := fun c => decide (gr c ≤ v)) (g := fun c => decide (gr c < u)) (fun c hc => decide_eq_true (by have := of_decide_eq_true hc; omega)) hL
  omega

set_option maxHeartbeats 12800000 in
theorem rises_walk {w : World} (n : Nat) {a : Option Addr} {len cap : Nat} {l : List UInt64} (hv : Holds w (.slice a len cap) (u64s l)) (hl : l.length = len) :
    Calls Try.prog 8 #[.int .u64 (n : Int), .slice a len cap] w fun e w' => e = .returned (.bool true) ∧ Below w.heap.size w w' := by
  have KL := lives_any
  obtain ⟨k, hk⟩ : ∃ k, n % 64 + 1 = k := ⟨_, rfl⟩
  obtain ⟨M, hM⟩ : ∃ M, n % 64 = M := ⟨_, rfl⟩
  have hkM : k = M + 1 := by omega
  have hk64 : k ≤ 64 := by omega
  have mM : (n : Int).tmod 64 = (M : Int) := by rw [Int.tmod_eq_emod_of_nonneg (by omega)]; omega
  have mM2 : (n : Int) % 64 = (M : Int) := by omega
  have wM : IntKind.i64.wrap (M : Int) = (M : Int) := by rw [IntKind.wrap_i64]; omega
  have wk : IntKind.i64.wrap (1 + (M : Int)) = (k : Int) := by rw [IntKind.wrap_i64]; omega
  have wk2 : IntKind.i64.wrap ((M : Int) + 1) = (k : Int) := by rw [IntKind.wrap_i64]; omega
  have KN := side_dnew (Side.nil w) 1 (k := k) (by omega) hk64
  obtain ⟨xs, hxs⟩ : ∃ xs, l.map UInt64.toNat = xs := ⟨_, rfl⟩
  have hxl : xs.length = len := by rw [← hxs, List.length_map, hl]
  have hxb : ∀ x ∈ xs, x < 18446744073709551616 := fun x hx => by
    rw [← hxs] at hx
    obtain ⟨u, _, rfl⟩ := List.mem_map.1 hx
    exact u.toNat_lt
  have hcells : ∀ m x : Nat, xs[m]? = some x → (u64s l)[m]? = some (Value.int .u64 (x : Int)) := fun m x hx => by
    rw [← hxs, List.getElem?_map] at hx
    obtain ⟨u, hu, rfl⟩ := Option.map_eq_some_iff.1 hx
    unfold u64s
    rw [List.getElem?_map, hu]
    rfl
  have HC := Lib.hid (fun (W : World) (hb : Below w.heap.size w W) (m x : Nat) (hx : xs[m]? = some x) => (show ∃ ad : Addr, a = some ad ∧ W.cell? (ad.add m) = some (.int .u64 (x : Int)) from by
    obtain ⟨ad, rfl⟩ := hv.ptr (by have := (List.getElem?_eq_some_iff.1 hx).1; omega)
    exact ⟨ad, rfl, (hv.below hb).cell (hcells m x hx)⟩))
  have hcap : len ≤ cap := hv.len.2
  have HXB := Lib.hid hxb
  have HXL := Lib.hid hxl
  have HKK := Lib.hid hkM.symm
  clear hv hl hxs hxb hcells hxl hM hkM hk
  by_cases hlk : 200 < len
  · have t0 : decide ((200 : Int) < (len : Int)) = true := decide_eq_true (by omega)
    have t1 : decide (200 < len) = true := decide_eq_true hlk
    clear hlk HC HXB HXL hcap
    go_enter Try.func8, Try.ntmps8
    go_wp2_with fail
    refine KN.mono ?_
    rintro e w1 ⟨p, rfl, h1⟩
    clear KN
    go_wp2_with fail
    refine (KL _).mono ?_
    rintro e w' ⟨rfl, hb⟩
    have FB := Lib.hid (h1.out.base.trans (hb.mono h1.out.base.size))
    clear h1 hb
    go_wp2_with fail
    go_ret
    exact ⟨rfl, FB.out⟩
  have t0 : decide ((200 : Int) < (len : Int)) = false := decide_eq_false (by omega)
  have t1 : decide (200 < len) = false := decide_eq_false hlk
  have HLK := Lib.hid (Nat.le_of_not_lt hlk)
  have HK := Lib.hid (show 1 ≤ k ∧ k ≤ 64 from ⟨by rw [← HKK.out]; omega, hk64⟩)
  clear hlk hk64
  go_enter Try.func8, Try.ntmps8
  go_wp2_with fail
  refine KN.mono ?_
  rintro e w1 ⟨p, rfl, h1⟩
  clear KN
  go_wp2_with fail
  clear t0 t1 mM mM2 wM wk wk2
  go_loopw [35] (fun s wr => ∃ m : Nat, s = .int .i64 m ∧ m ≤ len ∧ Hid (Side w [(1, Dx p k m)] wr)) (fun s _ => len - (intOf s).toNat)
  case atStart => exact ⟨0, rfl, Nat.zero_le _, Lib.hid (side_fine h1.out HK.out.1 HK.out.2)⟩
  case round =>
    obtain ⟨m, rfl, hm, HS⟩ := hrel
    by_cases hlt : m < len
    · obtain ⟨x, hx⟩ : ∃ x, xs[m]? = some x := ⟨xs[m]'(by rw [HXL.out]; exact hlt), List.getElem?_eq_getElem _⟩
      have hS := HS.out
      obtain ⟨ad, rfl, d0⟩ := HC.out wr hS.base m x hx
      have KI := side_xins hS (HXB.out x (List.mem_of_getElem? hx)) (by have := HLK.out; omega)
      have hw64 := wi_small hlt (by have := HLK.out; omega)
      have b0 : (0 : Int) ≤ (m : Int) := Int.natCast_nonneg m
      have b1 : (m : Int) < (len : Int) := Int.ofNat_lt.2 hlt
      clear hx hS HS h1
      go_wp2_with fail
      refine KI.mono ?_
      rintro e w2 ⟨rfl, S2⟩
      clear KI
      go_wp2_with fail
      go_roundw
      case rel => exact ⟨m + 1, by go_num, hlt, S2⟩
      case measure => simp [intOf]; omega
    · obtain ⟨L, hR, hS⟩ := side_fix HS.out
      obtain rfl : m = len := by omega
      have HR := Lib.hid hR
      have HS0 := Lib.hid hS
      clear HS hR hS h1 hm
      go_wp2_with fail
      go_loopw [8, 9] (fun s0 s wr => ∃ (u r : Nat), s0 = .int .u64 (u : Int) ∧ s = .int .i64 r ∧ 1 ≤ r ∧ r ≤ m + 1 ∧ Hid (∀ t, (r : Int) ≤ t → t ≤ m → ∀ v, t ≤ csum (fun c => decide (gr c ≤ v)) L → u ≤ v) ∧ Hid (Side w [(1, Df p k m L)] wr)) (fun _ s _ => m + 1 - (intOf s).toNat)
      case atStart => exact ⟨0, 1, rfl, rfl, Nat.le_refl _, by omega, Lib.hid (fun _ _ _ _ _ => Nat.zero_le _), HS0⟩
      case round =>
        obtain ⟨u, r, rfl, rfl, hr1, hr2, HU, HS⟩ := hrel
        by_cases hlt2 : r ≤ m
        · have hS := HS.out
          have KR := side_frank hS (r := (r : Int)) (by omega) (by omega)
          have HS1 := Lib.hid hS
          have hw65 : IntKind.i64.wrap ((r : Int) + 1) = (r : Int) + 1 := by have := HLK.out; rw [IntKind.wrap_i64]; omega
          have b0 : (r : Int) ≤ (m : Int) := Int.ofNat_le.2 hlt2
          have b0' : decide ((r : Int) ≤ (m : Int)) = true := decide_eq_true b0
          have HRR := Lib.hid (And.intro hr1 hlt2)
          clear hS HS HS0
          go_wp2_with fail
          refine KR.mono ?_
          rintro e w2 ⟨D, hRD, rfl, hb⟩
          have hT : total L = m := HR.out.inv.inv.sum
          obtain ⟨v, h3, h4, h5⟩ := rank_csum HR.out.inv.inv.pos hRD (r := (r : Int)) (by omega) (by omega)
          have huv : u ≤ v := HU.out _ (Int.le_refl _) (by omega) v h5
          have HU2 : Hid (∀ t, ((r + 1 : Nat) : Int) ≤ t → t ≤ m → ∀ y, t ≤ csum (fun c => decide (gr c ≤ y)) L → v ≤ y) := Lib.hid fun t g1 g2 y g3 => ranks_rise HR.out.inv.inv.pos (by omega) h4 g3
          rw [h3]
          have HS2 := Lib.hid (HS1.out.below hb)
          have q1 : decide ((v : Int) < (u : Int)) = false := decide_eq_false (by omega)
          have q2 : decide (v < u) = false := decide_eq_false (by omega)
          clear KR hRD h3 h4 h5 hb HS1 HU hT huv
          unfold rankV
          go_wp2_with fail
          go_roundw
          case rel => exact ⟨v, r + 1, rfl, by go_num, by omega, by omega, HU2, HS2⟩
          case measure => simp [intOf]; omega
        · have hS := HS.out
          have K1 := side_fout hS (r := (m : Int) + 1) (.inr (by omega))
          have K2 := side_fout hS (r := 0) (.inl (by omega))
          have FB := Lib.hid hS.base
          have b0 : ¬ (r : Int) ≤ (m : Int) := by omega
          have b0' : decide ((r : Int) ≤ (m : Int)) = false := decide_eq_false b0
          have wm : IntKind.i64.wrap ((m : Int) + 1) = (m : Int) + 1 := by have := HLK.out; rw [IntKind.wrap_i64]; omega
          clear hS HS HS0 HU
          go_wp2_with fail
          refine K1.mono ?_
          rintro e w2 ⟨rfl, rfl⟩
          clear K1
          unfold rankV
          go_wp2_with fail
          refine K2.mono ?_
          rintro e w2 ⟨rfl, rfl⟩
          clear K2
          unfold rankV
          go_wp2_with fail
          refine (KL _).mono ?_
          rintro e w' ⟨rfl, hb⟩
          have FB2 := Lib.hid (FB.out.trans (hb.mono FB.out.size))
          clear hb FB
          go_wp2_with fail
          go_ret
          exact ⟨rfl, FB2.out⟩
end Go.Proofs.Ytaaphkjimlfgoaa
