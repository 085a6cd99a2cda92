/- ids of the document. Conditions: at most 300000 bytes. -/
import Derived.Test.YtknghmcdnlkfcaaMColX
import Derived.Test.YtknghmcdnlkfcaaPackAE
set_option maxRecDepth 100000
namespace Go.Proofs.Ytknghmcdnlkfcaa
open Go.RowKit Go.Maps Go.Sort

/-- ids and whether they are some come out -/
def OutK (w : World) (L : List Int) (ok : Bool) (e : Ending) (w' : World) : Prop := ∃ ra rk, e = .returned (.tuple #[.slice ra L.length rk, .bool ok]) ∧ Holds w' (.slice ra L.length rk) (i64s L) ∧ Below w.heap.size w w' ∧ ∀ ad, ra = some ad → w.heap.size ≤ ad.block
theorem outK_no {w w' : World} (h : Below w.heap.size w w') : OutK w [] false (.returned (.tuple #[.slice none 0 0, .bool false])) w' := ⟨none, 0, rfl, Holds.nil _, h, fun ad e => by cases e⟩
theorem fin_no {LU : List UInt64} {E : Int} {u : UInt64} (h : u ∈ LU) (hu : ¬ u.toNat < 512) : finI (LU, E) = ([], false) := by
  have : LU.all (fun u => decide (u.toNat < 512)) = false := by
    rw [Bool.eq_false_iff]
    intro g
    exact hu (of_decide_eq_true (List.all_eq_true.1 g u h))
  unfold finI
  simp [this]
theorem fin_yes {LU : List UInt64} {E : Int} (h : ∀ u ∈ LU, u.toNat < 512) : finI (LU, E) = (LU.map sgnU, E == 0) := by
  have : LU.all (fun u => decide (u.toNat < 512)) = true := List.all_eq_true.2 fun u hu => decide_eq_true (h u hu)
  unfold finI
  simp [this]
def dec0 (N : Nat) : List UInt8 → List Int × Bool
  | [] => ([], false)
  | y :: r' => finI (unpackAns (y.toNat : Int) (N : Int) r')
theorem rdec_cons (N : Nat) (x : UInt8) (r : List UInt8) : rdec N (x :: r) = if x.toNat = 0 then dec0 N r else if x.toNat = 1 then finI (unrAns r) else if x.toNat = 2 then ((undAns r).1, (undAns r).2 == 0) else ([], false) := by
  cases r <;> rfl
set_option maxHeartbeats 6400000 in
theorem rids_any {w : World} {a : Option Addr} {n k N : Nat} {bs : List UInt8} (h : Holds w (.slice a n k) (u8s bs)) (hl : bs.length ≤ 300000) :
    Calls Try.prog 39 #[.slice a n k, .int .i64 (N : Int)] w (OutK w (rdec N bs).1 (rdec N bs).2) := by
  have e1 := h.len.1
  rw [u8s_len] at e1
  cases bs with
  | nil =>
    obtain rfl : n = 0 := e1.symm
    have HF : Hid (OutK w (rdec N []).1 (rdec N []).2 (.returned (.tuple #[.slice none 0 0, .bool false])) w) := Lib.hid (outK_no (Below.refl _ _))
    clear h hl e1
    go_enter Try.func39, Try.ntmps39
    go_wp2_with fail
    go_ret2
    exact HF.out
  | cons x r =>
    have hpos : 0 < n := by rw [← e1]; simp
    obtain ⟨ad, rfl⟩ := h.ptr hpos
    have c0 := h.cell (j := 0) (u := .int .u8 (x.toNat : Int)) (by simp [u8s])
    rw [addr_zero] at c0
    have hkn := h.len.2
    obtain ⟨A, i1, i2, hc⟩ := cut_one h (show 1 ≤ n by omega)
    simp only [List.drop_one, List.tail_cons] at hc
    rw [addr_one] at i1 i2
    have t0 : ((n : Int) == 0) = false := by rw [beq_eq_false_iff_ne]; omega
    have t1 : (n == 0) = false := by rw [beq_eq_false_iff_ne]; omega
    have b1 : (1 : Int) ≤ (n : Int) := by omega
    have b2 : (0 : Int) < (n : Int) := by omega
    have b3 : (1 : Int) ≤ (k : Int) := by omega
    have b4 : (n : Int) ≤ (k : Int) := by omega
    have hxn : x.toNat < 256 := x.toNat_lt
    have hrl : r.length ≤ 300000 := by simp only [List.length_cons] at hl; omega
    have hnr : r.length = n - 1 := by simp only [List.length_cons] at e1; omega
    have hdef := rdec_cons N x r
    obtain ⟨xv, hxv⟩ : ∃ xv, x.toNat = xv := ⟨_, rfl⟩
    rw [hxv] at hdef c0 hxn
    by_cases hx0 : xv = 0
    · subst hx0
      rw [if_pos rfl] at hdef
      have u0 : ((0 : Nat) == 0) = true := rfl
      cases r with
      | nil =>
        have HF : Hid (OutK w (rdec N [x]).1 (rdec N [x]).2 (.returned (.tuple #[.slice none 0 0, .bool false])) w) := Lib.hid (by rw [hdef]; exact outK_no (Below.refl _ _))
        have b5 : decide ((n : Int) < 2) = true := decide_eq_true (by simp at hnr; omega)
        have b6 : decide (n < 2) = true := decide_eq_true (by simp at hnr; omega)
        clear h hl e1 hc hdef hrl hnr i1 i2
        go_enter Try.func39, Try.ntmps39
        go_wp2_with fail
        go_ret2
        exact HF.out
      | cons y r' =>
        have hn2 : 2 ≤ n := by simp only [List.length_cons] at hnr; omega
        have cy := h.cell (j := 1) (u := .int .u8 (y.toNat : Int)) (by simp [u8s])
        rw [addr_one] at cy
        obtain ⟨A2, j1, j2, hc2⟩ := cut_one h hn2
        rw [addr_succ ad 1] at j1 j2
        simp only [List.drop_succ_cons, List.drop_zero] at hc2
        have KU := fun (V : World) (hv : Below w.heap.size w V) => refUnpack_all (bs := r') (w := V) (a := some A2) (cap := k - 2) (by rw [show r'.length = n - 2 by simp only [List.length_cons] at hnr; omega]; exact hc2.below hv) (y.toNat : Int) (N : Int)
        rw [show r'.length = n - 2 by simp only [List.length_cons] at hnr; omega] at KU
        have hyn : y.toNat < 256 := y.toNat_lt
        have hul := unpackAns_len (y.toNat : Int) (N : Int) r'
        obtain ⟨yv, hyv⟩ : ∃ yv, y.toNat = yv := ⟨_, rfl⟩
        have hdef : rdec N (x :: y :: r') = finI (unpackAns (y.toNat : Int) (N : Int) r') := hdef
        rw [hyv] at KU cy hyn hul hdef
        obtain ⟨LU, hLU⟩ : ∃ LU, (unpackAns (yv : Int) (N : Int) r').1 = LU := ⟨_, rfl⟩
        obtain ⟨E, hE⟩ : ∃ E, (unpackAns (yv : Int) (N : Int) r').2 = E := ⟨_, rfl⟩
        have hpair : unpackAns (yv : Int) (N : Int) r' = (LU, E) := by rw [← hLU, ← hE]
        rw [hpair] at hdef
        rw [hLU] at hul
        simp only [hpair] at KU
        obtain ⟨ul, hul2⟩ : ∃ ul, LU.length = ul := ⟨_, rfl⟩
        simp only [hul2] at KU
        have HKU := Lib.hid KU
        have HD := Lib.hid hdef
        have HULL := Lib.hid (And.intro hul2 (show ul ≤ 100000 by omega))
        have b5 : decide ((n : Int) < 2) = false := decide_eq_false (by omega)
        have b6 : decide (n < 2) = false := decide_eq_false (by omega)
        have b7 : (1 : Int) < (n : Int) := by omega
        have b8 : (2 : Int) ≤ (n : Int) := by omega
        have b9 : (2 : Int) ≤ (k : Int) := by omega
        have hwy : IntKind.i64.wrap (yv : Int) = (yv : Int) := by rw [IntKind.wrap_i64]; omega
        clear h hl e1 hc hdef hrl hnr i1 i2 hc2 KU hLU hE hpair hul hul2 hyv
        go_enter Try.func39, Try.ntmps39
        go_wp2_with fail
        refine wp_region_mix (fun V => V.cell? ⟨ad.block, ad.off + 1, none⟩ = some (.int .u8 (yv : Int))) 13 [(true, 0), (true, 1), (true, 2), (true, 3), (true, 4), (true, 5), (false, 6), (false, 7), (true, 8), (true, 9), (true, 10), (true, 11), (true, 12)] (by kernel_rfl) (by decide +kernel) rfl (by decide +kernel) cy ?_
        iterate 6
          refine wpMix_take (v := ?_) rfl rfl ?_ ?_
          rotate_left
          · (intro V hV; (try dsimp only at hV); go_simp) <;> with_reducible rfl
          simp only [Act.put, List.setIfInBounds_toArray, List.set_cons_zero, List.set_cons_succ]
        refine wpMix_run rfl ?_
        intro K' hK
        go_wp2_with fail
        refine hK.out _ _ (fun _ => cy) ?_
        clear hK K'
        refine wpMix_run rfl ?_
        intro K' hK
        go_wp2_with fail
        refine (HKU.out _ (below_drew1 w)).mono ?_
        rintro e V0 ⟨ua, uk, rfl, HV⟩
        have hu := HV.out.1
        have hbv : Below w.heap.size w V0 := undrew HV.out.2
        have hul : LU.length = ul ∧ ul ≤ 100000 := HULL.out
        have cy0 : V0.cell? ⟨ad.block, ad.off + 1, none⟩ = some (.int .u8 (yv : Int)) := by rw [hbv.cell (World.block_lt_of_cell? w _ cy)]; exact cy
        clear HV HKU cy
        go_wp2_with fail
        refine hK.out _ _ (fun _ => cy0) ?_
        clear hK K'
        iterate 5
          refine wpMix_take (v := ?_) rfl rfl ?_ ?_
          rotate_left
          · (intro V hV; (try dsimp only at hV); go_simp) <;> with_reducible rfl
          simp only [Act.put, List.setIfInBounds_toArray, List.set_cons_zero, List.set_cons_succ]
        refine wpMix_nil ?_
        have HUL := Lib.hid hul
        have HU := Lib.hid hu
        have HBv := Lib.hid hbv
        obtain ⟨eb, heb⟩ : ∃ eb, (E == 0) = eb := ⟨_, rfl⟩
        have HEB := Lib.hid heb
        clear hul hu hbv
        go_wp2_with fail
        go_loopw [9, 55] (fun v s wr => ∃ (m : Nat) (sv : Value), sv = v ∧ s = .int .i64 m ∧ m ≤ ul ∧ Hid (RowI V0.heap.size sv ((LU.take m).map sgnU) wr ∧ Below V0.heap.size V0 wr ∧ ∀ u ∈ LU.take m, u.toNat < 512)) (fun _ s _ => ul - (RowKit.intOf s).toNat)
        case atStart => exact ⟨0, _, rfl, rfl, Nat.zero_le _, Lib.hid ⟨RowI.nil _ _, Below.refl _ _, fun u hu => by simp at hu⟩⟩
        case round =>
          obtain ⟨m, sv, rfl, rfl, hm, HR⟩ := hrel
          by_cases hlt : m < ul
          · have hk : m < LU.length := by have := HUL.out.1; omega
            obtain ⟨z, hx⟩ : ∃ z, LU[m]? = some z := ⟨_, List.getElem?_eq_getElem hk⟩
            have G := HU.out.below HR.out.2.1
            obtain ⟨dd, rfl⟩ := G.ptr (by omega)
            have cu := G.cell (j := m) (u := .int .u64 (z.toNat : Int)) (by simp [u64s, hx])
            have b0 : (0 : Int) ≤ (m : Int) := Int.natCast_nonneg m
            have b1 : (m : Int) < (ul : Int) := Int.ofNat_lt.2 hlt
            have hw64 := col_next5 hlt (by have := HUL.out.1; have := HUL.out.2; omega)
            obtain ⟨sa, sc, rfl, hsc, _⟩ := ownsRow_form HR.out.1
            by_cases hz5 : z.toNat < 512
            · obtain ⟨v', w6, r1, o1⟩ := pushI HR.out.1 HR.out.2.1.size (by rw [List.length_map, List.length_take]; have := HUL.out.2; omega) (z.toNat : Int)
              have hh : Hid (RowI V0.heap.size v' ((LU.take (m + 1)).map sgnU) w6 ∧ Below V0.heap.size V0 w6 ∧ ∀ u ∈ LU.take (m + 1), u.toNat < 512) := Lib.hid (by
                rw [take_snoc hx, List.map_append, List.map_cons, List.map_nil, sgn_small hz5]
                refine ⟨o1.out.1, HR.out.2.1.trans o1.out.2, fun u hu => ?_⟩
                rcases List.mem_append.1 hu with hu | hu
                · exact HR.out.2.2 u hu
                · simp at hu; rw [hu]; exact hz5)
              have hal : ((LU.take m).map sgnU).length = m := by rw [List.length_map, List.length_take]; omega
              obtain ⟨xn, hxn⟩ : ∃ xn, z.toNat = xn := ⟨_, rfl⟩
              rw [hxn] at cu r1 hz5
              rw [hal] at r1
              have u0 : decide ((512 : Int) ≤ (xn : Int)) = false := decide_eq_false (by omega)
              have u1 : decide (512 ≤ xn) = false := decide_eq_false (by omega)
              have hwx : IntKind.i64.wrap (xn : Int) = (xn : Int) := by rw [IntKind.wrap_i64]; omega
              (try rw [hal])
              clear HR o1 hk hx G hxn hz5 hsc
              go_wp2_with (at_builtin; refine wpList_append_run rfl _ _ 23 rfl rfl rfl (r1.out _) ?_)
              go_roundw
              case rel => exact ⟨m + 1, _, rfl, by go_num, hlt, hh⟩
              case measure => simp [RowKit.intOf]; omega
            · have HF : Hid (OutK w (rdec N (x :: y :: r')).1 (rdec N (x :: y :: r')).2 (.returned (.tuple #[.slice none 0 0, .bool false])) wr) := Lib.hid (by
                have := fin_no (E := E) (List.mem_of_getElem? hx) hz5
                rw [HD.out, this]
                exact outK_no (HBv.out.trans (HR.out.2.1.mono HBv.out.size)))
              obtain ⟨xn, hxn⟩ : ∃ xn, z.toNat = xn := ⟨_, rfl⟩
              rw [hxn] at cu hz5
              have u0 : decide ((512 : Int) ≤ (xn : Int)) = true := decide_eq_true (by omega)
              have u1 : decide (512 ≤ xn) = true := decide_eq_true (by omega)
              clear HR hk hx G hxn hz5 hsc
              go_wp2_with fail
              go_ret2
              exact HF.out
          · obtain rfl : m = ul := by omega
            have hta : LU.take m = LU := by rw [← HUL.out.1]; exact List.take_length
            have hlen : (LU.map sgnU).length = m := by rw [List.length_map]; exact HUL.out.1
            have hro := HR.out
            rw [hta] at hro
            have hho := hro.1.holds
            obtain ⟨sa, sc, rfl, hsc, _⟩ := ownsRow_form hro.1
            rw [hlen] at hho
            (try rw [hta])
            (try rw [hlen])
            have HF : Hid (OutK w (rdec N (x :: y :: r')).1 (rdec N (x :: y :: r')).2 (.returned (.tuple #[.slice sa m sc, .bool eb])) wr) := Lib.hid (by
              rw [HD.out, fin_yes hro.2.2]
              refine ⟨sa, sc, ?_, ?_, HBv.out.trans (hro.2.1.mono HBv.out.size), fun ad e => Nat.le_trans HBv.out.size (hro.1.lt ad.block (by rw [e]; rfl)).1⟩
              · rw [hlen, ← HEB.out]
              · rw [hlen]; exact hho)
            clear HR hta hlen hro hho hsc
            go_wp2_with fail
            go_ret2
            exact HF.out
    rw [if_neg hx0] at hdef
    have u0 : (xv == 0) = false := by rw [beq_eq_false_iff_ne]; exact hx0
    have u1 : ((xv : Int) == 0) = false := by rw [beq_eq_false_iff_ne]; omega
    by_cases hx1 : xv = 1
    · subst hx1
      rw [if_pos rfl] at hdef
      have KU := refUnruns_any hc hrl
      have hul := unrAns_len r
      obtain ⟨LU, hLU⟩ : ∃ LU, (unrAns r).1 = LU := ⟨_, rfl⟩
      obtain ⟨E, hE⟩ : ∃ E, (unrAns r).2 = E := ⟨_, rfl⟩
      have hpair : unrAns r = (LU, E) := by rw [← hLU, ← hE]
      rw [hpair] at hdef KU
      rw [hLU] at hul
      obtain ⟨ul, hul2⟩ : ∃ ul, LU.length = ul := ⟨_, rfl⟩
      simp only [hul2] at KU
      have HD := Lib.hid hdef
      have HULL := Lib.hid (And.intro hul2 (show ul ≤ 100000 by omega))
      clear h hl e1 hc hdef hrl hnr hLU hE hpair hul hx0 hul2
      go_enter Try.func39, Try.ntmps39
      go_wp2_with fail
      refine KU.mono ?_
      rintro e V0 ⟨rv, rfl, HV⟩
      obtain ⟨ua, uk, rfl, _⟩ := ownsRow_form HV.out.1
      have hu : Holds V0 (.slice ua ul uk) (u64s LU) := Holds.of_row (by rw [u64s_len, HULL.out.1]; exact HV.out.1)
      have hbv := HV.out.2
      have hul : LU.length = ul ∧ ul ≤ 100000 := HULL.out
      clear HV KU
      have HUL := Lib.hid hul
      have HU := Lib.hid hu
      have HBv := Lib.hid hbv
      obtain ⟨eb, heb⟩ : ∃ eb, (E == 0) = eb := ⟨_, rfl⟩
      have HEB := Lib.hid heb
      clear hul hu hbv
      go_wp2_with fail
      go_loopw [9, 55] (fun v s wr => ∃ (m : Nat) (sv : Value), sv = v ∧ s = .int .i64 m ∧ m ≤ ul ∧ Hid (RowI V0.heap.size sv ((LU.take m).map sgnU) wr ∧ Below V0.heap.size V0 wr ∧ ∀ u ∈ LU.take m, u.toNat < 512)) (fun _ s _ => ul - (RowKit.intOf s).toNat)
      case atStart => exact ⟨0, _, rfl, rfl, Nat.zero_le _, Lib.hid ⟨RowI.nil _ _, Below.refl _ _, fun u hu => by simp at hu⟩⟩
      case round =>
        obtain ⟨m, sv, rfl, rfl, hm, HR⟩ := hrel
        by_cases hlt : m < ul
        · have hk : m < LU.length := by have := HUL.out.1; omega
          obtain ⟨z, hx⟩ : ∃ z, LU[m]? = some z := ⟨_, List.getElem?_eq_getElem hk⟩
          have G := HU.out.below HR.out.2.1
          obtain ⟨dd, rfl⟩ := G.ptr (by omega)
          have cu := G.cell (j := m) (u := .int .u64 (z.toNat : Int)) (by simp [u64s, hx])
          have b0 : (0 : Int) ≤ (m : Int) := Int.natCast_nonneg m
          have b1 : (m : Int) < (ul : Int) := Int.ofNat_lt.2 hlt
          have hw64 := col_next5 hlt (by have := HUL.out.1; have := HUL.out.2; omega)
          obtain ⟨sa, sc, rfl, hsc, _⟩ := ownsRow_form HR.out.1
          by_cases hz5 : z.toNat < 512
          · obtain ⟨v', w6, r1, o1⟩ := pushI HR.out.1 HR.out.2.1.size (by rw [List.length_map, List.length_take]; have := HUL.out.2; omega) (z.toNat : Int)
            have hh : Hid (RowI V0.heap.size v' ((LU.take (m + 1)).map sgnU) w6 ∧ Below V0.heap.size V0 w6 ∧ ∀ u ∈ LU.take (m + 1), u.toNat < 512) := Lib.hid (by
              rw [take_snoc hx, List.map_append, List.map_cons, List.map_nil, sgn_small hz5]
              refine ⟨o1.out.1, HR.out.2.1.trans o1.out.2, fun u hu => ?_⟩
              rcases List.mem_append.1 hu with hu | hu
              · exact HR.out.2.2 u hu
              · simp at hu; rw [hu]; exact hz5)
            have hal : ((LU.take m).map sgnU).length = m := by rw [List.length_map, List.length_take]; omega
            obtain ⟨xn, hxn⟩ : ∃ xn, z.toNat = xn := ⟨_, rfl⟩
            rw [hxn] at cu r1 hz5
            rw [hal] at r1
            have u0 : decide ((512 : Int) ≤ (xn : Int)) = false := decide_eq_false (by omega)
            have u1 : decide (512 ≤ xn) = false := decide_eq_false (by omega)
            have hwx : IntKind.i64.wrap (xn : Int) = (xn : Int) := by rw [IntKind.wrap_i64]; omega
            (try rw [hal])
            clear HR o1 hk hx G hxn hz5 hsc
            go_wp2_with (at_builtin; refine wpList_append_run rfl _ _ 23 rfl rfl rfl (r1.out _) ?_)
            go_roundw
            case rel => exact ⟨m + 1, _, rfl, by go_num, hlt, hh⟩
            case measure => simp [RowKit.intOf]; omega
          · have HF : Hid (OutK w (rdec N (x :: r)).1 (rdec N (x :: r)).2 (.returned (.tuple #[.slice none 0 0, .bool false])) wr) := Lib.hid (by
              have := fin_no (E := E) (List.mem_of_getElem? hx) hz5
              rw [HD.out, this]
              exact outK_no (HBv.out.trans (HR.out.2.1.mono HBv.out.size)))
            obtain ⟨xn, hxn⟩ : ∃ xn, z.toNat = xn := ⟨_, rfl⟩
            rw [hxn] at cu hz5
            have u0 : decide ((512 : Int) ≤ (xn : Int)) = true := decide_eq_true (by omega)
            have u1 : decide (512 ≤ xn) = true := decide_eq_true (by omega)
            clear HR hk hx G hxn hz5 hsc
            go_wp2_with fail
            go_ret2
            exact HF.out
        · obtain rfl : m = ul := by omega
          have hta : LU.take m = LU := by rw [← HUL.out.1]; exact List.take_length
          have hlen : (LU.map sgnU).length = m := by rw [List.length_map]; exact HUL.out.1
          have hro := HR.out
          rw [hta] at hro
          have hho := hro.1.holds
          obtain ⟨sa, sc, rfl, hsc, _⟩ := ownsRow_form hro.1
          rw [hlen] at hho
          (try rw [hta])
          (try rw [hlen])
          have HF : Hid (OutK w (rdec N (x :: r)).1 (rdec N (x :: r)).2 (.returned (.tuple #[.slice sa m sc, .bool eb])) wr) := Lib.hid (by
            rw [HD.out, fin_yes hro.2.2]
            refine ⟨sa, sc, ?_, ?_, HBv.out.trans (hro.2.1.mono HBv.out.size), fun ad e => Nat.le_trans HBv.out.size (hro.1.lt ad.block (by rw [e]; rfl)).1⟩
            · rw [hlen, ← HEB.out]
            · rw [hlen]; exact hho)
          clear HR hta hlen hro hho hsc
          go_wp2_with fail
          go_ret2
          exact HF.out
    rw [if_neg hx1] at hdef
    have u2 : (xv == 1) = false := by rw [beq_eq_false_iff_ne]; exact hx1
    have u3 : ((xv : Int) == 1) = false := by rw [beq_eq_false_iff_ne]; omega
    by_cases hx2 : xv = 2
    · subst hx2
      rw [if_pos rfl] at hdef
      have KU := refUndeltas_any hc hrl
      obtain ⟨LU, hLU⟩ : ∃ LU, (undAns r).1 = LU := ⟨_, rfl⟩
      obtain ⟨E, hE⟩ : ∃ E, (undAns r).2 = E := ⟨_, rfl⟩
      have hpair : undAns r = (LU, E) := by rw [← hLU, ← hE]
      rw [hpair] at hdef KU
      obtain ⟨ul, hul2⟩ : ∃ ul, LU.length = ul := ⟨_, rfl⟩
      simp only [hul2] at KU
      obtain ⟨eb, heb⟩ : ∃ eb, (E == 0) = eb := ⟨_, rfl⟩
      have HF : Hid (∀ V ua uk, V.ownsRow w.heap.size 3 1 (.slice ua ul uk) ul (i64s LU) → Below w.heap.size w V → OutK w (rdec N (x :: r)).1 (rdec N (x :: r)).2 (.returned (.tuple #[.slice ua ul uk, .bool eb])) V) := Lib.hid (fun V ua uk ho hb => by
        rw [hdef]
        refine ⟨ua, uk, ?_, ?_, hb, fun ad e => (ho.lt ad.block (by rw [e]; rfl)).1⟩
        · simp only [hul2, heb]
        · simp only [hul2]; exact Holds.of_row (by rw [i64s_len, hul2]; exact ho))
      clear h hl e1 hc hdef hrl hnr hLU hE hpair hx0 hx1 hul2
      go_enter Try.func39, Try.ntmps39
      go_wp2_with fail
      refine KU.mono ?_
      rintro e V0 ⟨rv, rfl, HV⟩
      obtain ⟨ua, uk, rfl, _⟩ := ownsRow_form HV.out.1
      have HFF := Lib.hid (HF.out V0 ua uk HV.out.1 HV.out.2)
      clear HV KU HF
      go_wp2_with fail
      go_ret2
      exact HFF.out
    rw [if_neg hx2] at hdef
    have u4 : (xv == 2) = false := by rw [beq_eq_false_iff_ne]; exact hx2
    have u5 : ((xv : Int) == 2) = false := by rw [beq_eq_false_iff_ne]; omega
    have HF : Hid (OutK w (rdec N (x :: r)).1 (rdec N (x :: r)).2 (.returned (.tuple #[.slice none 0 0, .bool false])) w) := Lib.hid (by rw [hdef]; exact outK_no (Below.refl _ _))
    clear h hl e1 hc hdef hrl hnr i1 i2 hx0 hx1 hx2
    go_enter Try.func39, Try.ntmps39
    go_wp2_with fail
    go_ret2
    exact HF.out
end Go.Proofs.Ytknghmcdnlkfcaa
