/- The walk of DigestFew: of fewer numbers than k ranks are exact. Conditions: none. -/
import Derived.Test.YtaaphkjimlfgoaaDigStab
import Derived.Test.YtaaphkjimlfgoaaDigNone
set_option maxRecDepth 100000
namespace Go.Proofs.Ytaaphkjimlfgoaa
open Go.RowKit Go.Maps Go.Sort Go.Shelf

theorem node_low {c : Nat} (h : c < 18446744073709551616) : NodeC c := by
  unfold NodeC
  have e1 : c / 18446744073709551616 = 0 := by omega
  rw [e1]
  exact ⟨by omega, by have : (2 : Nat) ^ (64 - 0) = 18446744073709551616 := by decide
                      omega⟩
theorem gr_low {c : Nat} (h : c < 18446744073709551616) : gr c = c := by
  unfold gr
  rw [asN_eq (node_low h)]
  have e1 : c / 18446744073709551616 = 0 := by omega
  rw [e1]
  omega
theorem dasc_nodup {L : DL} (h : DAsc L) : (L.map Prod.fst).Nodup := by
  unfold List.Nodup
  rw [List.pairwise_map]
  exact h.imp fun {a b} h => Nat.ne_of_lt h
/-- below a rank's number there are fewer, up to it as many -/
theorem few_counts {k : Nat} {xs : List Nat} {V : DV} (hO : DV.Of k xs V) (hx : ∀ x ∈ xs, x < 18446744073709551616) {D A B : DL} {p : Nat × Int} (hR : RankedG V.L D) (hD : D = A ++ p :: B) {r : Int} (h1 : total A < r) (h2 : r ≤ total A + p.2) :
    (xs.countP (fun y => decide (y < gr p.1)) : Int) < r ∧ r ≤ (xs.countP (fun y => decide (y ≤ gr p.1)) : Int) ∧ gr p.1 < 18446744073709551616 := by
  have hlow : ∀ q ∈ D, q.1 < 18446744073709551616 := fun q hq => hx _ (hO.codes q (hR.perm.mem_iff.1 hq))
  have hnd : (D.map Prod.fst).Nodup := (hR.perm.map Prod.fst).nodup_iff.2 (dasc_nodup hO.asc)
  have hpD : p ∈ D := by rw [hD]; simp
  have hgp := gr_low (hlow p hpD)
  have ho := hR.order
  rw [hD] at ho hnd
  obtain ⟨_, o2, o3⟩ := List.pairwise_append.1 ho
  rw [List.map_append, List.map_cons] at hnd
  unfold List.Nodup at hnd
  obtain ⟨_, n2, n3⟩ := List.pairwise_append.1 hnd
  have hA : ∀ a ∈ A, a.1 < p.1 := fun a ha => by
    have h := o3 a ha p (List.mem_cons_self ..)
    rw [ltG_no, hgp, gr_low (hlow a (by rw [hD]; exact List.mem_append_left _ ha))] at h
    have := n3 a.1 (List.mem_map_of_mem ha) p.1 (List.mem_cons_self ..)
    omega
  have hB : ∀ b ∈ B, p.1 < b.1 := fun b hb => by
    have h := (List.pairwise_cons.1 o2).1 b hb
    rw [ltG_no, hgp, gr_low (hlow b (by rw [hD]; exact List.mem_append_right _ (List.mem_cons_of_mem _ hb)))] at h
    have := (List.pairwise_cons.1 n2).1 b.1 (List.mem_map_of_mem hb)
    omega
  have c1 : csum (fun y => decide (y < p.1)) D = total A := by
    rw [hD, csum_append, csum_all (fun a ha => by simpa using hA a ha)]
    show total A + ((if decide (p.1 < p.1) then p.2 else 0) + csum _ B) = total A
    rw [csum_no (L := B) (fun b hb => by have := hB b hb; simp; omega)]
    simp
  have c2 : csum (fun y => decide (y ≤ p.1)) D = total A + p.2 := by
    rw [hD, csum_append, csum_all (fun a ha => by have := hA a ha; simp; omega)]
    show total A + ((if decide (p.1 ≤ p.1) then p.2 else 0) + csum _ B) = total A + p.2
    rw [csum_no (L := B) (fun b hb => by have := hB b hb; simp; omega)]
    simp
  have s1 := hO.sums fun y => decide (y < p.1)
  have s2 := hO.sums fun y => decide (y ≤ p.1)
  rw [csum_perm _ hR.perm.symm] at s1 s2
  rw [hgp]
  refine ⟨?_, ?_, hlow p hpD⟩
  · rw [← s1, c1]; exact h1
  · rw [← s2, c2]; exact h2
theorem total_of {k : Nat} {xs : List Nat} {V : DV} (hO : DV.Of k xs V) {D : DL} (hR : RankedG V.L D) : total D = xs.length := by
  unfold total
  rw [csum_perm _ hR.perm, hO.sums]
  simp
theorem countP_take (f : Nat → Bool) {xs : List Nat} {m x : Nat} (h : xs[m]? = some x) : (xs.take (m + 1)).countP f = (xs.take m).countP f + (if f x then 1 else 0) := by
  obtain ⟨hm, rfl⟩ := List.getElem?_eq_some_iff.1 h
  rw [← List.take_append_getElem hm, List.countP_append, List.countP_singleton]
theorem side_drank_all {w0 w : World} {E : List (Nat × Thing)} {i p : Nat} {V : DV} (h : Side w0 E w) (hx : (i, Dk p V) ∈ E) (hl : V.L.length ≤ 100000) (hN : ∀ q ∈ V.L, NodeC q.1) {r : Int} (h1 : 1 ≤ r) (h2 : r ≤ V.n) :
    Calls Try.prog 21 #[.pointer (some ⟨p, 0, none⟩), .int .i64 r] w fun e w' => ∃ D, RankedG V.L D ∧ e = .returned (rankV (rankG D r)) ∧ Below w.heap.size w w' := by
  obtain ⟨T, b, hA, hG⟩ := side_thing h hx
  exact rank_all hA hG.k1 hl hN (fun q hq => ⟨hG.pos q hq, by have := hG.le q hq; have := hG.n50; omega⟩) h1 h2 (by have := hG.n50; omega)
theorem side_pos {w0 w : World} {E : List (Nat × Thing)} {i p : Nat} {V : DV} (h : Side w0 E w) (hx : (i, Dk p V) ∈ E) : ∀ q ∈ V.L, 1 ≤ q.2 := by
  obtain ⟨T, b, hA, hG⟩ := side_thing h hx
  exact hG.pos
theorem wi_small {m n : Nat} (h : m < n) (hn : n ≤ 1000000000) : IntKind.i64.wrap ((m : Int) + 1) = (m : Int) + 1 := by rw [IntKind.wrap_i64]; omega
set_option maxHeartbeats 12800000 in
theorem few_walk {w : World} (n : Nat) {a : Option Addr} {len cap : Nat} {l : List UInt64} (hv : Holds w (.slice a len cap) (u64s l)) (hl : l.length = len) :
    Calls Try.prog 5 #[.int .u64 (n : Int), .slice a len cap] w fun e w' => e = .returned (.bool true) ∧ Below w.heap.size w w' := by
  have KL := lives_any
  obtain ⟨k, hk⟩ : ∃ k, n % 64 + 1 = k := ⟨_, rfl⟩
  obtain ⟨M, hM⟩ : ∃ M, n % 64 = M := ⟨_, rfl⟩
  have hkM : k = M + 1 := by omega
  have hk64 : k ≤ 64 := by omega
  have mM : (n : Int).tmod 64 = (M : Int) := by rw [Int.tmod_eq_emod_of_nonneg (by omega)]; omega
  have mM2 : (n : Int) % 64 = (M : Int) := by omega
  have wM : IntKind.i64.wrap (M : Int) = (M : Int) := by rw [IntKind.wrap_i64]; omega
  have wk : IntKind.i64.wrap (1 + (M : Int)) = (k : Int) := by rw [IntKind.wrap_i64]; omega
  have wk2 : IntKind.i64.wrap ((M : Int) + 1) = (k : Int) := by rw [IntKind.wrap_i64]; omega
  have KN := side_dnew (Side.nil w) 1 (k := k) (by omega) hk64
  obtain ⟨xs, hxs⟩ : ∃ xs, l.map UInt64.toNat = xs := ⟨_, rfl⟩
  have hxl : xs.length = len := by rw [← hxs, List.length_map, hl]
  have hxb : ∀ x ∈ xs, x < 18446744073709551616 := fun x hx => by
    rw [← hxs] at hx
    obtain ⟨u, _, rfl⟩ := List.mem_map.1 hx
    exact u.toNat_lt
  have hcells : ∀ m x : Nat, xs[m]? = some x → (u64s l)[m]? = some (Value.int .u64 (x : Int)) := fun m x hx => by
    rw [← hxs, List.getElem?_map] at hx
    obtain ⟨u, hu, rfl⟩ := Option.map_eq_some_iff.1 hx
    unfold u64s
    rw [List.getElem?_map, hu]
    rfl
  have HC := Lib.hid (fun (W : World) (hb : Below w.heap.size w W) (m x : Nat) (hx : xs[m]? = some x) => (show ∃ ad : Addr, a = some ad ∧ W.cell? (ad.add m) = some (.int .u64 (x : Int)) from by
    obtain ⟨ad, rfl⟩ := hv.ptr (by have := (List.getElem?_eq_some_iff.1 hx).1; omega)
    exact ⟨ad, rfl, (hv.below hb).cell (hcells m x hx)⟩))
  have hcap : len ≤ cap := hv.len.2
  have HXB := Lib.hid hxb
  have HXL := Lib.hid hxl
  clear hv hl hxs hxb hcells hxl hM hkM hk
  by_cases hlk : k ≤ len
  · have t0 : decide ((k : Int) ≤ (len : Int)) = true := decide_eq_true (by omega)
    have t1 : decide (k ≤ len) = true := decide_eq_true hlk
    clear hlk HC HXB HXL hcap
    go_enter Try.func5, Try.ntmps5
    go_wp2_with fail
    refine KN.mono ?_
    rintro e w1 ⟨p, rfl, h1⟩
    clear KN
    go_wp2_with fail
    refine (KL _).mono ?_
    rintro e w' ⟨rfl, hb⟩
    have FB := Lib.hid (h1.out.base.trans (hb.mono h1.out.base.size))
    clear h1 hb
    go_wp2_with fail
    go_ret
    exact ⟨rfl, FB.out⟩
  have t0 : decide ((k : Int) ≤ (len : Int)) = false := decide_eq_false (by omega)
  have t1 : decide (k ≤ len) = false := decide_eq_false hlk
  have HLK := Lib.hid (And.intro (Nat.lt_of_not_le hlk) hk64)
  clear hlk hk64
  go_enter Try.func5, Try.ntmps5
  go_wp2_with fail
  refine KN.mono ?_
  rintro e w1 ⟨p, rfl, h1⟩
  clear KN
  go_wp2_with fail
  clear t0 t1 mM mM2 wM wk wk2
  go_loopw [31] (fun s wr => ∃ m : Nat, s = .int .i64 m ∧ m ≤ len ∧ Hid (∃ V, DV.Of k (xs.take m) V ∧ Side w [(1, Dk p V)] wr)) (fun s _ => len - (intOf s).toNat)
  case atStart => exact ⟨0, rfl, Nat.zero_le _, Lib.hid ⟨_, by rw [List.take_zero]; exact of_none k, h1.out⟩⟩
  case round =>
    obtain ⟨m, rfl, hm, HS⟩ := hrel
    by_cases hlt : m < len
    · obtain ⟨x, hx⟩ : ∃ x, xs[m]? = some x := ⟨xs[m]'(by rw [HXL.out]; exact hlt), List.getElem?_eq_getElem _⟩
      obtain ⟨V, hO, hS⟩ := HS.out
      obtain ⟨ad, rfl, d0⟩ := HC.out wr hS.base m x hx
      have hml : (xs.take m).length = m := by rw [List.length_take, HXL.out]; omega
      have KI := side_dins0 hS (fun _ h => by cases h) (HXB.out x (List.mem_of_getElem? hx)) (by rw [hO.n, hml]; have := HLK.out; omega) (by have := hO.len; rw [hml] at this; rw [hO.k]; have := HLK.out; omega)
      have hO2 : DV.Of k (xs.take (m + 1)) (V.ins0 x) := by
        obtain ⟨hm', e⟩ := List.getElem?_eq_some_iff.1 hx
        rw [← List.take_append_getElem hm', e]
        exact hO.ins x
      have HO2 := Lib.hid hO2
      have hw64 := wi_small hlt (by have := HLK.out; omega)
      have b0 : (0 : Int) ≤ (m : Int) := Int.natCast_nonneg m
      have b1 : (m : Int) < (len : Int) := Int.ofNat_lt.2 hlt
      clear hx hO hS HS hml hO2 h1
      go_wp2_with fail
      refine KI.mono ?_
      rintro e w2 ⟨rfl, S2⟩
      have HF : Hid (∃ V, DV.Of k (xs.take (m + 1)) V ∧ Side w [(1, Dk p V)] w2) := Lib.hid ⟨_, HO2.out, S2.out⟩
      clear KI S2 HO2
      go_wp2_with fail
      go_roundw
      case rel => exact ⟨m + 1, by go_num, hlt, HF⟩
      case measure => simp [intOf]; omega
    · obtain ⟨V, hO, hS⟩ := HS.out
      have e : xs.take m = xs := List.take_of_length_le (by rw [HXL.out]; omega)
      rw [e] at hO
      have HO := Lib.hid hO
      have HS0 := Lib.hid hS
      clear HS hO hS h1 e hm
      go_wp2_with fail
      go_loopw [9] (fun s wr => ∃ r : Nat, s = .int .i64 r ∧ 1 ≤ r ∧ r ≤ len + 1 ∧ Hid (Side w [(1, Dk p V)] wr)) (fun s _ => len + 1 - (intOf s).toNat)
      case atStart => exact ⟨1, rfl, Nat.le_refl _, by omega, HS0⟩
      case round =>
        obtain ⟨r, rfl, hr1, hr2, HS⟩ := hrel
        by_cases hlt2 : r ≤ len
        · have hS := HS.out
          have hO := HO.out
          have hn : V.n = len := by rw [hO.n, HXL.out]
          have KR := side_drank_all hS (List.mem_cons_self ..) (by have := hO.len; rw [HXL.out] at this; have := HLK.out; omega) (fun q hq => node_low (HXB.out _ (hO.codes q hq))) (r := (r : Int)) (by omega) (by omega)
          have HP := Lib.hid (side_pos hS (List.mem_cons_self ..))
          have HS1 := Lib.hid hS
          have hw65 : IntKind.i64.wrap ((r : Int) + 1) = (r : Int) + 1 := by have := HLK.out; rw [IntKind.wrap_i64]; omega
          have b0 : (r : Int) ≤ (len : Int) := Int.ofNat_le.2 hlt2
          have b0' : decide ((r : Int) ≤ (len : Int)) = true := decide_eq_true b0
          have HR := Lib.hid (And.intro hr1 hlt2)
          clear hS hO hn HS HS0
          go_wp2_with fail
          refine KR.mono ?_
          rintro e w2 ⟨D, hR, rfl, hb⟩
          obtain ⟨A, q, B, hD, h3, h4, h5⟩ := rankG_spec D (r : Int) (by have := HR.out; omega) (by rw [total_of HO.out hR, HXL.out]; have := HR.out; omega) (fun q hq => HP.out q (hR.perm.mem_iff.1 hq))
          obtain ⟨f1, f2, f3⟩ := few_counts HO.out HXB.out hR hD h4 h5
          rw [h3]
          obtain ⟨v, hv⟩ : ∃ v, gr q.1 = v := ⟨_, rfl⟩
          rw [hv] at f1 f2 f3 ⊢
          have HS2 := Lib.hid (HS1.out.below hb)
          have HF := Lib.hid (And.intro f1 (And.intro f2 f3))
          clear KR hR hD h3 h4 h5 hv f1 f2 f3 hb HS1 HP
          unfold rankV
          go_wp2_with fail
          clear b0 b0'
          go_loopw [12, 13, 53] (fun s1 s2 s wr => ∃ (j c1 c2 : Nat), s = .int .i64 j ∧ s1 = .int .i64 c1 ∧ s2 = .int .i64 c2 ∧ j ≤ len ∧ c1 ≤ j ∧ c2 ≤ j ∧ Hid ((xs.take j).countP (fun y => decide (y < v)) = c1 ∧ (xs.take j).countP (fun y => decide (y ≤ v)) = c2) ∧ Hid (Side w [(1, Dk p V)] wr)) (fun _ _ s _ => len - (intOf s).toNat)
          case atStart => exact ⟨0, 0, 0, rfl, rfl, rfl, Nat.zero_le _, Nat.le_refl _, Nat.le_refl _, Lib.hid ⟨by simp, by simp⟩, HS2⟩
          case round =>
            obtain ⟨j, c1, c2, rfl, rfl, rfl, hj, hc1, hc2, HCt, HS⟩ := hrel
            by_cases hlt3 : j < len
            · obtain ⟨x, hx⟩ : ∃ x, xs[j]? = some x := ⟨xs[j]'(by rw [HXL.out]; exact hlt3), List.getElem?_eq_getElem _⟩
              obtain ⟨ad, rfl, d0⟩ := HC.out wr HS.out.base j x hx
              have hw66 := wi_small hlt3 (by have := HLK.out; omega)
              have w1 : IntKind.i64.wrap ((c1 : Int) + 1) = (c1 : Int) + 1 := by have := HLK.out; rw [IntKind.wrap_i64]; omega
              have w2 : IntKind.i64.wrap ((c2 : Int) + 1) = (c2 : Int) + 1 := by have := HLK.out; rw [IntKind.wrap_i64]; omega
              have p1 := countP_take (fun y => decide (y < v)) hx
              have p2 := countP_take (fun y => decide (y ≤ v)) hx
              rw [HCt.out.1] at p1
              rw [HCt.out.2] at p2
              have b1 : (j : Int) < (len : Int) := Int.ofNat_lt.2 hlt3
              have b2 : (0 : Int) ≤ (j : Int) := Int.natCast_nonneg j
              have hz : (x < v ∧ x ≤ v) ∨ (¬ x < v ∧ x ≤ v) ∨ (¬ x < v ∧ ¬ x ≤ v) := by omega
              rcases hz with ⟨z1, z2⟩ | ⟨z1, z2⟩ | ⟨z1, z2⟩
              · rw [decide_eq_true z1, if_pos rfl] at p1
                rw [decide_eq_true z2, if_pos rfl] at p2
                have q1 : decide ((x : Int) < (v : Int)) = true := decide_eq_true (by omega)
                have q2 : decide (x < v) = true := decide_eq_true z1
                have q3 : decide ((x : Int) ≤ (v : Int)) = true := decide_eq_true (by omega)
                have q4 : decide (x ≤ v) = true := decide_eq_true z2
                have HP := Lib.hid (And.intro p1 p2)
                have HZ := Lib.hid (And.intro hc1 hc2)
                clear p1 p2 z1 z2 HCt hx hc1 hc2
                go_wp2_with fail
                go_roundw
                case rel => exact ⟨j + 1, c1 + 1, c2 + 1, by go_num, by go_num, by go_num, hlt3, by have := HZ.out; omega, by have := HZ.out; omega, HP, HS⟩
                case measure => simp [intOf]; omega
              · rw [decide_eq_false z1, if_neg (by simp)] at p1
                rw [decide_eq_true z2, if_pos rfl] at p2
                have q1 : decide ((x : Int) < (v : Int)) = false := decide_eq_false (by omega)
                have q2 : decide (x < v) = false := decide_eq_false z1
                have q3 : decide ((x : Int) ≤ (v : Int)) = true := decide_eq_true (by omega)
                have q4 : decide (x ≤ v) = true := decide_eq_true z2
                have HP := Lib.hid (And.intro p1 p2)
                have HZ := Lib.hid (And.intro hc1 hc2)
                clear p1 p2 z1 z2 HCt hx hc1 hc2
                go_wp2_with fail
                go_roundw
                case rel => exact ⟨j + 1, c1, c2 + 1, by go_num, rfl, by go_num, hlt3, by have := HZ.out; omega, by have := HZ.out; omega, HP, HS⟩
                case measure => simp [intOf]; omega
              · rw [decide_eq_false z1, if_neg (by simp)] at p1
                rw [decide_eq_false z2, if_neg (by simp)] at p2
                have q1 : decide ((x : Int) < (v : Int)) = false := decide_eq_false (by omega)
                have q2 : decide (x < v) = false := decide_eq_false z1
                have q3 : decide ((x : Int) ≤ (v : Int)) = false := decide_eq_false (by omega)
                have q4 : decide (x ≤ v) = false := decide_eq_false z2
                have HP := Lib.hid (And.intro p1 p2)
                have HZ := Lib.hid (And.intro hc1 hc2)
                clear p1 p2 z1 z2 HCt hx hc1 hc2
                go_wp2_with fail
                go_roundw
                case rel => exact ⟨j + 1, c1, c2, by go_num, rfl, rfl, hlt3, by have := HZ.out; omega, by have := HZ.out; omega, HP, HS⟩
                case measure => simp [intOf]; omega
            · have e : xs.take j = xs := List.take_of_length_le (by rw [HXL.out]; omega)
              obtain ⟨f1, f2, _⟩ := HF.out
              have hct := HCt.out
              rw [e] at hct
              rw [hct.1] at f1
              rw [hct.2] at f2
              have g1 : decide ((r : Int) ≤ (c1 : Int)) = false := decide_eq_false (by omega)
              have g2 : decide (r ≤ c1) = false := decide_eq_false (by omega)
              have g3 : decide ((c2 : Int) < (r : Int)) = false := decide_eq_false (by omega)
              have g4 : decide (c2 < r) = false := decide_eq_false (by omega)
              have HSF := HS
              clear f1 f2 hct e HCt HS HS2 HF hc1 hc2 hj
              go_wp2_with fail
              go_roundw
              case rel => exact ⟨r + 1, by go_num, by omega, by have := HR.out; omega, HSF⟩
              case measure => have := HR.out; simp [intOf]; omega
        · have HB := Lib.hid HS.out.base
          have b0' : decide ((r : Int) ≤ (len : Int)) = false := decide_eq_false (by omega)
          clear HS HS0
          go_wp2_with fail
          refine (KL _).mono ?_
          rintro e w' ⟨rfl, hb⟩
          have FB := Lib.hid (HB.out.trans (hb.mono HB.out.size))
          clear hb
          go_wp2_with fail
          go_ret
          exact ⟨rfl, FB.out⟩
end Go.Proofs.Ytaaphkjimlfgoaa
