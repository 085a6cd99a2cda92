/- codec.readPacked reads what Pack tells: its success. Conditions: small lists. -/
import Derived.Test.YtbijpjoljljlpaaCodecReadMain
set_option maxRecDepth 100000
namespace Go.Proofs.Ytbijpjoljljlpaa
open Go.RowKit Go.Maps Go.Sort
attribute [local go_sem] Oper.semAt_some

theorem alloc3r (W : World) (A B C : Obj) : (((W.alloc A).alloc B).alloc C).heap[W.heap.size]? = some A ∧ (((W.alloc A).alloc B).alloc C).heap[W.heap.size + 1]? = some B ∧ (((W.alloc A).alloc B).alloc C).heap[W.heap.size + 2]? = some C := by
  refine ⟨?_, ?_, ?_⟩
  · exact (Below.heap_alloc _ _ _ (by simp; omega)).trans ((Below.heap_alloc _ _ _ (by simp)).trans (alloc1 _ _))
  · have := alloc1 (W.alloc A) B
    exact (Below.heap_alloc _ _ _ (by simp)).trans (by simpa using this)
  · have := alloc1 ((W.alloc A).alloc B) C
    simpa using this
theorem stepsE_getr {f w k : Nat} (hk : k < (stepsE f w).length) : ∃ d at', (stepsL f w 0)[k]? = some (d, at') ∧ (stepsE f w)[k] = #[Value.int .i64 (d : Int), Value.int .i64 (at' : Int)] := by
  have hk2 : k < (stepsL f w 0).length := by simpa [stepsE] using hk
  exact ⟨(stepsL f w 0)[k].1, (stepsL f w 0)[k].2, List.getElem?_eq_getElem hk2, by simp [stepsE, stepE]⟩
/-- the number at j, when all its steps are done, masked -/
theorem mask_done (y D wd : Nat) (h : wd ≤ D) (hw : wd ≤ 64) : y % 2 ^ D % 2 ^ 64 % 2 ^ wd = y % 2 ^ wd := by
  rw [Nat.mod_mod_of_dvd _ (Nat.pow_dvd_pow 2 hw), Nat.mod_mod_of_dvd _ (Nat.pow_dvd_pow 2 h)]
theorem ofNat_toNat64 (x : Nat) : (UInt64.ofNat x).toNat = x % 2 ^ 64 := by simp

set_option maxHeartbeats 3200000 in
theorem read_ok {w : World} {a : Option Addr} {cap : Nat} {bs : List UInt8} (h : Holds w (.slice a bs.length cap) (u8s bs)) (wd n : Nat) (hw : wd ≤ 64) (hn : n ≤ 100000) (hb : bs.length = (wd * n + 7) / 8) (hgood : numB bs < 2 ^ (wd * n)) :
    Calls Try.prog 58 #[.int .i64 (wd : Int), .int .i64 (n : Int), .slice a bs.length cap] w fun e w' => ∃ v', e = .returned v' ∧ Hid (w'.ownsRow w.heap.size 44 1 v' n (u64s (unpackL wd n (numB bs))) ∧ Below w.heap.size w w') := by
  have hle : wd * n ≤ 64 * 100000 := Nat.mul_le_mul hw hn
  have hpk := fun W => (packedBytes_any wd n hw (by omega) W).mono fun _ _ ⟨h1, h2⟩ => (⟨h1, h2.symm⟩ : _ ∧ _ = W)
  rw [← hb] at hpk
  have hprod : (wd : Int) * (n : Int) = ((wd * n : Nat) : Int) := by simp
  generalize ht : wd * n = tot at *
  have hbw : Below w.heap.size w (w.alloc (.cells #[.slice a bs.length cap] 28)) := below1r w _
  have e8 : (tot : Int) % 8 = ((tot % 8 : Nat) : Int) := by omega
  have hr8 : tot % 8 ≤ 8 := by omega
  have htail : tot % 8 = 0 ∨ ∃ q ad last, bs.length = q + 1 ∧ a = some ad ∧ 0 < tot % 8 ∧ w.cell? (ad.add q) = some (.int .u8 ((last : Nat) : Int)) ∧ last < 256 ∧ ((last : Int) / 2 ^ (tot % 8) != 0) = false := by
    rcases Nat.eq_zero_or_pos (tot % 8) with e | hr
    · exact .inl e
    · have hbl : bs.length - 1 < bs.length := by omega
      have htr := (trail_eq bs tot hb hr hbl).2 hgood
      obtain ⟨ad, rfl⟩ := h.ptr (by omega)
      refine .inr ⟨bs.length - 1, ad, bs[bs.length - 1].toNat, by omega, rfl, hr, h.cell (by rw [u8s, List.getElem?_map, List.getElem?_eq_getElem hbl]; rfl), bs[bs.length - 1].toNat_lt, ?_⟩
      rw [bne_eq_false_iff_eq]
      have e : (2 : Int) ^ (tot % 8) = ((2 ^ (tot % 8) : Nat) : Int) := by simp
      rw [e, ← Int.natCast_ediv, htr]
      rfl
  generalize tot % 8 = r8 at *
  obtain ⟨q, hq⟩ : ∃ q, bs.length = q := ⟨_, rfl⟩
  have hq2 : q ≤ 1000000 := by omega
  have HH := Lib.hid h
  have HQ := Lib.hid hq
  have HBL := Lib.hid hb
  have HG := Lib.hid hgood
  rw [hq] at hpk hbw htail HH ⊢
  have HPK := Lib.hid hpk
  have HB := Lib.hid hbw
  have HT := Lib.hid ht
  have HTAIL := Lib.hid htail
  have hmkU := fun W => mkU W n hn
  clear hpk hb hgood ht h hbw hq htail
  refine (callsIn_wide (n := 0)).1 ?_
  refine callsIn_of_wp_marks Try.func58 rfl trivial ?_ rfl
  simp only [Try.ntmps58, List.size_toArray, List.length_cons, List.length_nil, Nat.reduceAdd, Nat.reduceSub, Array.replicate_succ, Array.replicate_zero, List.push_toArray, List.append_toArray, List.nil_append, List.cons_append]
  gi_wp2_with fail
  refine wpIn_region_quiet_lit rfl (by kernel_rfl) (by kernel_rfl) ?_
  repeat (gi_big_quiet_step (fail))
  refine wpQuietIn_step (fun _ _ _ _ => trivial) (fun K hK => ?_)
  go_simp
  refine ⟨_, fun q => ⟨rfl, callsIn_wide.2 (Calls.quiet_of_same (HPK.out _))⟩, hK _ ?_⟩
  clear hK K
  repeat (gi_big_quiet_step (fail))
  refine wpQuietIn_nil ?_
  intro _ hw'
  obtain ⟨nq, hw''⟩ := hw'
  subst hw''
  have hbox : ((w.alloc (.cells #[.slice a q cap] 28)).drewN nq).cell? ⟨w.heap.size, 0, none⟩ = some (.slice a q cap) := by
    rw [show ((w.alloc (.cells #[.slice a q cap] 28)).drewN nq).cell? ⟨w.heap.size, 0, none⟩ = (w.alloc (.cells #[.slice a q cap] 28)).cell? ⟨w.heap.size, 0, none⟩ from rfl, cell_of_row _ _ _ _ _ _ (alloc1 _ _)]; rfl
  have hwb : Below w.heap.size w ((w.alloc (.cells #[.slice a q cap] 28)).drewN nq) := by
    have hb := HB.out
    exact ⟨hb.os, hb.tape, hb.output, hb.size, hb.block⟩
  have hws : ((w.alloc (.cells #[.slice a q cap] 28)).drewN nq).heap.size = w.heap.size + 1 := by
    show (w.alloc _).heap.size = _
    simp
  have hwa : ((w.alloc (.cells #[.slice a q cap] 28)).drewN nq).heap[w.heap.size]? = some (.cells #[.slice a q cap] 28 (0, 0)) := alloc1 w _
  generalize ((w.alloc (.cells #[.slice a q cap] 28)).drewN nq) = w1 at *
  obtain ⟨bv, hbv1, hbv2⟩ : ∃ bv, Holds w bv (u8s bs) ∧ w1.heap[w.heap.size]? = some (.cells #[bv] 28 (0, 0)) := ⟨_, HH.out, hwa⟩
  have HBV := Lib.hid hbv1
  have HW := Lib.hid (And.intro hwb (And.intro hws hbv2))
  have HS := Lib.hid hws
  clear hwb hwa hws hbv1 hbv2
  rcases HTAIL.out with hr0 | ⟨q', ad, last, hqq, rfl, hr1, hc, hl, htest⟩
  · have hz : (tot : Int) % 8 = 0 := by omega
    clear e8 hr8
    gi_wp2_with fail
    rw [HS.out]
    refine wpIn_loop (fun A W => ∃ (j : Nat) (s2 s7 s12 s13 s14 s15 s16 s17 s18 s19 s20 s21 s22 s23 s24 s25 s26 s27 s28 s29 s30 s31 s32 s33 s34 s35 s36 s37 s38 s39 u9 u42 u43 u44 u45 u46 u47 u48 u68 u69 u70 u71 u72 u73 u74 u75 u76 u77 : Value) (ds : List Deferred), j ≤ n ∧ A = { tmps := #[Value.int IntKind.i64 ↑wd, Value.int IntKind.i64 ↑n, s2, undef, undef, Value.pointer (some { block := w.heap.size, off := 0 }), Value.slice none 0 0, s7, Value.pointer (some { block := w.heap.size + 1 + 1, off := 0 }), u9, undef, undef, s12, s13, s14, s15, s16, s17, s18, s19, s20, s21, s22, s23, s24, s25, s26, s27, s28, s29, s30, s31, s32, s33, s34, s35, s36, s37, s38, s39, Value.int IntKind.i64 ↑n, Value.int IntKind.i64 ↑j, u42, u43, u44, u45, u46, u47, u48, undef, undef, undef, undef, undef, undef, undef, undef, undef, undef, undef, undef, undef, undef, undef, undef, undef, undef, undef, u68, u69, u70, u71, u72, u73, u74, u75, u76, u77, undef], defers := ds } ∧ Hid (ReadW w bv n (partL wd n (numB bs) j) W ds)) (fun A _ => n - (intOf (A.tmps.getD 41 undef)).toNat) ?_ ?_
    · refine ⟨0, _, _, _, _, _, _, _, _, _, _, _, _, _, _, _, _, _, _, _, _, _, _, _, _, _, _, _, _, _, _, _, _, _, _, _, _, _, _, _, _, _, _, _, _, _, _, _, _, [], by omega, rfl, ?_, ?_, ?_, ?_, trivial, ?_⟩
      · exact (Below.heap_alloc _ _ _ (by simp; have := HS.out; omega)).trans ((Below.heap_alloc _ _ _ (by have := HS.out; omega)).trans HW.out.2.2)
      · rw [part_zero, ← HS.out]
        exact (Below.heap_alloc _ _ _ (by simp)).trans (alloc1 _ _)
      · have := alloc1 (w1.alloc (Obj.cells (u64s (List.replicate n 0)).toArray 44)) (Obj.cells #[Value.slice (some { block := w.heap.size + 1, off := 0 }) n n] 46)
        rw [World.size_alloc, HS.out] at this
        exact this
      · exact (HW.out.1.alloc (by have := HS.out; omega) _).alloc (by simp; have := HS.out; omega) _
      · simp; have := HS.out; omega
    · rintro A W ⟨j, s2, s7, s12, s13, s14, s15, s16, s17, s18, s19, s20, s21, s22, s23, s24, s25, s26, s27, s28, s29, s30, s31, s32, s33, s34, s35, s36, s37, s38, s39, u9, u42, u43, u44, u45, u46, u47, u48, u68, u69, u70, u71, u72, u73, u74, u75, u76, u77, ds, hj, rfl, HP⟩
      by_cases hjn : j < n
      · have hprodj : (j : Int) * (wd : Int) = ((wd * j : Nat) : Int) := by rw [Int.natCast_mul, Int.mul_comm]
        have hple : wd * j ≤ 64 * 100000 := Nat.mul_le_mul hw (by omega)
        generalize hf : wd * j = f at *
        have HFF := Lib.hid hf
        clear hf
        gi_wp2_with fail
        refine ⟨trivial, rfl, (callsIn_wide.2 (steps_any _ _ _)).mono ?_⟩
        rintro e w' ⟨rfl, rfl⟩
        gi_wp2_with fail
        have hsz := HP.out.size
        have hps : (((W.alloc (Obj.cells #[Value.int IntKind.i64 ↑j] 3)).alloc (Obj.cells #[Value.int IntKind.i64 ↑f] 3)).alloc (Obj.cells #[Value.int IntKind.i64 ↑wd] 3)).heap.size = W.heap.size + 3 := by simp
        have hJ0 : ReadJ w bv n W.heap.size j wd f (numB bs) (partL wd n (numB bs) j) ds 0 (((W.alloc (Obj.cells #[Value.int IntKind.i64 ↑j] 3)).alloc (Obj.cells #[Value.int IntKind.i64 ↑f] 3)).alloc (Obj.cells #[Value.int IntKind.i64 ↑wd] 3)) := by
          obtain ⟨a1, a2, a3⟩ := alloc3r W (Obj.cells #[Value.int IntKind.i64 ↑j] 3) (Obj.cells #[Value.int IntKind.i64 ↑f] 3) (Obj.cells #[Value.int IntKind.i64 ↑wd] 3)
          refine ⟨?_, a1, a2, a3⟩
          rw [part_self wd n (numB bs) j _ (by show _ % 2 ^ 0 = 0; omega)]
          exact HP.out.more ((((Below.refl _ _).alloc (Nat.le_refl _) _).alloc (by simp) _).alloc (by simp; omega) _)
        have hlt : ∀ d ∈ ds, ∀ D, d.target = .collected D → D < W.heap.size + 3 := fun d hd D hD => by have := HP.out.marks.lt d hd D hD; omega
        generalize ((W.alloc (Obj.cells #[Value.int IntKind.i64 ↑j] 3)).alloc (Obj.cells #[Value.int IntKind.i64 ↑f] 3)).alloc (Obj.cells #[Value.int IntKind.i64 ↑wd] 3) = W3 at *
        refine range_law (gf := 48) (lb := #[Value.pointer (some { block := W.heap.size + 1 + 1, off := 0 }), Value.pointer (some { block := W.heap.size + 1, off := 0 })]) rfl (enters_of Try.func48 (by kernel_rfl) rfl)
          (encs := stepsE f wd) (fun x hx => by obtain ⟨p, _, rfl⟩ := List.mem_map.1 hx; rfl) (steps_seq _ _ wd f hw (by omega))
          (ReadJ w bv n W.heap.size j wd f (numB bs) (partL wd n (numB bs) j) ds) (ReadJ.own (by rw [hps]; exact hlt) (by omega) (by omega)) (fun k X h => ⟨by rw [cell_of_row _ _ _ _ _ _ h.bw]; rfl, by rw [cell_of_row _ _ _ _ _ _ h.bf]; rfl⟩) hJ0
          (fun s X => ReadJ w bv n W.heap.size j wd f (numB bs) (partL wd n (numB bs) j) ds s.1 X ∧ ∃ d at', (stepsL f wd 0)[s.1]? = some (d, at') ∧
            s.2 = { tmps := #[Value.int IntKind.i64 ↑wd, Value.int IntKind.i64 ↑n, s2, undef, undef, Value.pointer (some { block := w.heap.size, off := 0 }), Value.slice none 0 0, s7, Value.pointer (some { block := w.heap.size + 1 + 1, off := 0 }), Value.pointer (some { block := W.heap.size, off := 0 }), Value.int IntKind.i64 (d : Nat), Value.int IntKind.i64 (at' : Nat), s12, s13, s14, s15, s16, s17, s18, s19, s20, s21, s22, s23, s24, s25, s26, s27, s28, s29, s30, s31, s32, s33, s34, s35, s36, s37, s38, s39, Value.int IntKind.i64 ↑n, Value.int IntKind.i64 ↑j, Value.bool true, Value.int IntKind.i64 ↑j, Value.int IntKind.i64 ↑j, Value.int IntKind.i64 ↑wd, Value.int IntKind.i64 ↑f, Value.int IntKind.i64 ↑wd, Value.func (Fn.func 48) #[] #[Value.pointer (some { block := W.heap.size + 1 + 1, off := 0 }), Value.pointer (some { block := W.heap.size + 1, off := 0 })], Value.int IntKind.i64 (d : Nat), Value.int IntKind.i64 (at' : Nat), undef, undef, undef, undef, undef, undef, undef, undef, undef, undef, undef, undef, undef, undef, undef, undef, undef, u68, u69, u70, u71, u72, u73, u74, u75, u76, u77, undef], defers := [] }) ?_ ?_ ?_ ?_
        · intro s X Y row h hg hr
          exact ⟨ReadJ.own (by rw [hps]; exact hlt) (by omega) (by omega) s.1 X Y row h.1 hg hr, h.2⟩
        · intro l' k hq X K h hK
          obtain ⟨d, at', hget, e⟩ := stepsE_getr hq
          rw [e]
          have HK := Lib.hid hK
          have HG2 := Lib.hid hget
          have HP2 := Lib.hid h
          clear hK e hget h
          simp only [List.zip_toArray, List.zip_cons_cons, List.zip_nil_right, List.foldl_toArray, List.foldl_cons, List.foldl_nil, List.setIfInBounds_toArray, List.set_cons_succ, List.set_cons_zero]
          gi_wp2
          exact HK.out _ _ (KeepsFrom.refl _ _) ⟨HP2.out, d, at', HG2.out, rfl⟩
        · rintro l' k hk a₁ X ⟨h, d, at', hget, rfl⟩
          obtain ⟨hd1, hd2⟩ := stepD_get f wd k (by simpa [stepsE] using hk)
          rw [hget] at hd1
          obtain ⟨rfl, rfl⟩ : d = stepD f k ∧ at' = f + stepD f k := by simpa using hd1
          have hstep : stepD f (k + 1) = stepD f k + (8 - (f + stepD f k) % 8) := rfl
          have hlist := h.main.list
          have hbb := h.main.bbox
          obtain ⟨ab, cb', hbf, _⟩ := HBV.out.form
          rw [u8s_len] at hbf
          have hbx := HBV.out.below h.main.below
          rw [hbf] at hbx hbb
          have hat : (f + stepD f k) / 8 < bs.length := by
            have h1 : f + wd ≤ wd * n := by
              rw [← HFF.out, ← Nat.mul_succ]; exact Nat.mul_le_mul_left _ (by omega)
            rw [HT.out] at h1
            have := HBL.out
            omega
          obtain ⟨ad, rfl⟩ := hbx.ptr (by omega)
          have c1 : X.cell? ⟨w.heap.size + 1 + 1, 0, none⟩ = some (.slice (some ⟨w.heap.size + 1, 0, none⟩) n n) := by rw [cell_of_row _ _ _ _ _ _ h.main.lbox]; rfl
          have c2 : X.cell? ⟨W.heap.size, 0, none⟩ = some (.int .i64 (j : Int)) := by rw [cell_of_row _ _ _ _ _ _ h.bi]; rfl
          have c3 : X.cell? ⟨w.heap.size, 0, none⟩ = some (.slice (some ad) bs.length cb') := by rw [cell_of_row _ _ _ _ _ _ hbb]; rfl
          have c4 : X.cell? (ad.add ((f + stepD f k) / 8)) = some (.int .u8 (bs[(f + stepD f k) / 8].toNat : Int)) := hbx.cell (by rw [u8s, List.getElem?_map, List.getElem?_eq_getElem hat]; rfl)
          have c5 : X.cell? ⟨w.heap.size + 1, j, none⟩ = some (.int .u64 ((numB bs / 2 ^ f % 2 ^ stepD f k % 2 ^ 64 : Nat) : Int)) := by
            rw [cell_of_row _ _ _ _ _ _ hlist]
            simp [u64s, part_len, hjn]
          have c6 := free_of_row hlist j
          have hbv := numB_at bs ((f + stepD f k) / 8) hat
          have hu := unpack_step (numB bs) f (stepD f k) (by omega)
          rw [← hstep] at hu
          have hpe := piece_eq (numB bs) (f + stepD f k)
          rw [← hbv] at hpe
          rw [← hpe] at hu
          have hblt := bs[(f + stepD f k) / 8].toNat_lt
          have hold : numB bs / 2 ^ f % 2 ^ stepD f k % 2 ^ 64 < 18446744073709551616 := Nat.mod_lt _ (by omega)
          have hst := fun S => h.main.store (i := j) (UInt64.ofNat (numB bs / 2 ^ f % 2 ^ stepD f (k + 1))) S
          simp only [ofNat_toNat64, List.set_set] at hst
          rw [← hu] at hst
          have hbi := fun v => heap_other (j := j) (v := v) (g := w.heap.size + 1) h.bi (by omega)
          have hbf2 := fun v => heap_other (j := j) (v := v) (g := w.heap.size + 1) h.bf (by omega)
          have hbw2 := fun v => heap_other (j := j) (v := v) (g := w.heap.size + 1) h.bw (by omega)
          have HFIN : Hid (∀ S, KeepsFrom S X (X.setCell ⟨w.heap.size + 1, j, none⟩ (.int .u64 ((numB bs / 2 ^ f % 2 ^ stepD f k % 2 ^ 64 ||| bs[(f + stepD f k) / 8].toNat / 2 ^ ((f + stepD f k) % 8) * 2 ^ stepD f k % 2 ^ 64 : Nat) : Int))).drew ∧
              ReadJ w bv n W.heap.size j wd f (numB bs) (partL wd n (numB bs) j) ds (k + 1) (X.setCell ⟨w.heap.size + 1, j, none⟩ (.int .u64 ((numB bs / 2 ^ f % 2 ^ stepD f k % 2 ^ 64 ||| bs[(f + stepD f k) / 8].toNat / 2 ^ ((f + stepD f k) % 8) * 2 ^ stepD f k % 2 ^ 64 : Nat) : Int))).drew) :=
            Lib.hid (fun S => ⟨(hst S).1, (hst S).2, hbi _, hbf2 _, hbw2 _⟩)
          clear hst hbi hbf2 hbw2 hu hpe hbv h hlist hbb hbf hbx
          have hd64 : stepD f k ≤ 64 := by omega
          have q7 : (f + stepD f k) % 8 < 8 := by omega
          have hz : bs[(f + stepD f k) / 8].toNat / 2 ^ ((f + stepD f k) % 8) * 2 ^ stepD f k % 2 ^ 64 < 18446744073709551616 := Nat.mod_lt _ (by omega)
          have hor := or_u64 _ _ hold hz
          have y1 : ((bs[(f + stepD f k) / 8].toNat : Nat) : Int) / 2 ^ ((f + stepD f k) % 8) = ((bs[(f + stepD f k) / 8].toNat / 2 ^ ((f + stepD f k) % 8) : Nat) : Int) := by simp
          have y2 : IntKind.u64.wrap (((bs[(f + stepD f k) / 8].toNat / 2 ^ ((f + stepD f k) % 8) : Nat) : Int) * 2 ^ stepD f k) = ((bs[(f + stepD f k) / 8].toNat / 2 ^ ((f + stepD f k) % 8) * 2 ^ stepD f k % 2 ^ 64 : Nat) : Int) := by
            rw [IntKind.wrap_u64]; simp
          have hpc : bs[(f + stepD f k) / 8].toNat / 2 ^ ((f + stepD f k) % 8) < 256 := Nat.lt_of_le_of_lt (Nat.div_le_self _ _) hblt
          generalize numB bs / 2 ^ f % 2 ^ stepD f k % 2 ^ 64 = old at *
          generalize bs[(f + stepD f k) / 8].toNat / 2 ^ ((f + stepD f k) % 8) * 2 ^ stepD f k % 2 ^ 64 = z at *
          generalize old ||| z = nw at *
          generalize bs[(f + stepD f k) / 8].toNat / 2 ^ ((f + stepD f k) % 8) = pc at *
          generalize bs[(f + stepD f k) / 8].toNat = by' at *
          have q3 : IntKind.i64.wrap (((f + stepD f k : Nat) : Int) / 8) = (((f + stepD f k) / 8 : Nat) : Int) := by rw [IntWalk.i64_in _ (by omega)]; omega
          have q5 : (((f + stepD f k : Nat)) : Int).tmod 8 = (((f + stepD f k) % 8 : Nat) : Int) := by rw [Int.tmod_eq_emod_of_nonneg (by omega)]; omega
          have hmix : Try.prog.follows .mixedOrders = true := by kernel_rfl
          have HTL := Lib.hid hget
          clear hget hd1 hstep
          generalize hT : f + stepD f k = t at *
          generalize t / 8 = i8 at *
          generalize t % 8 = r8' at *
          have hbl2 : bs.length ≤ 1000000 := by have := HQ.out; omega
          clear hT
          generalize stepD f k = d at *
          generalize bs.length = bln at *
          gi_wp2_with fail
          refine round_still_tail 17 hmix (by decide +kernel) (fun ⟨_, _, h⟩ => h) (by kernel_rfl) ?_
          simp only [List.take_succ_cons, List.take_zero, List.drop_succ_cons, List.drop_zero]
          repeat still_step
          try refine wpStill_nil ?_
          go_wp2
          rw [y2, hor]
          exact HFIN.out _
        · intro X h hD
          have HX := Lib.hid (And.intro h hD)
          clear h hD
          gi_wp2_with fail
          have hlen : (stepsE f wd).length = (stepsL f wd 0).length := by simp [stepsE]
          have hD := stepD_end f wd
          rw [← hlen] at hD
          have hlist := HX.out.1.main.list
          have c1 : X.cell? ⟨w.heap.size + 1 + 1, 0, none⟩ = some (.slice (some ⟨w.heap.size + 1, 0, none⟩) n n) := by rw [cell_of_row _ _ _ _ _ _ HX.out.1.main.lbox]; rfl
          have c2 : X.cell? ⟨W.heap.size, 0, none⟩ = some (.int .i64 (j : Int)) := by rw [cell_of_row _ _ _ _ _ _ HX.out.1.bi]; rfl
          have c5 : X.cell? ⟨w.heap.size + 1, j, none⟩ = some (.int .u64 ((numB bs / 2 ^ f % 2 ^ stepD f (stepsE f wd).length % 2 ^ 64 : Nat) : Int)) := by
            rw [cell_of_row _ _ _ _ _ _ hlist]
            simp [u64s, part_len, hjn]
          have c6 := free_of_row hlist j
          have hold : numB bs / 2 ^ f % 2 ^ stepD f (stepsE f wd).length % 2 ^ 64 < 18446744073709551616 := Nat.mod_lt _ (by omega)
          have y3 := mask_and wd _ hw hold
          rw [mask_done _ _ _ hD hw] at y3
          have y1 := mask_eq wd hw
          have y2 := mask_not wd hw
          have hst := fun S => HX.out.1.main.store (i := j) (UInt64.ofNat (numB bs / 2 ^ f % 2 ^ wd)) S
          rw [← HFF.out, part_step, HFF.out] at hst
          have hsmall : numB bs / 2 ^ f % 2 ^ wd < 2 ^ 64 := Nat.lt_of_lt_of_le (Nat.mod_lt _ (Nat.two_pow_pos _)) (Nat.pow_le_pow_right (by omega) hw)
          simp only [ofNat_toNat64] at hst
          rw [Nat.mod_eq_of_lt hsmall] at hst
          have HST := Lib.hid hst
          have hmix : Try.prog.follows .mixedOrders = true := by kernel_rfl
          have HM2 := Lib.hid (HX.out.2)
          clear hst hlist hD hlen hsmall
          generalize numB bs / 2 ^ f % 2 ^ stepD f (stepsE f wd).length % 2 ^ 64 = old at *
          generalize numB bs / 2 ^ f % 2 ^ wd = nw at *
          generalize 18446744073709551616 - 2 ^ wd = M1 at *
          generalize 2 ^ wd - 1 = M2 at *
          refine wide_still_tail 9 hmix (fun ⟨_, _, h⟩ => by obtain ⟨v, h1, _⟩ := h; cases h1) (by kernel_rfl) ?_
          simp only [List.take_succ_cons, List.take_zero, List.drop_succ_cons, List.drop_zero]
          repeat still_step
          try refine wpStill_nil ?_
          go_wp2
          have hJN := HST.out (w.heap.size + 3)
          have HJN := Lib.hid hJN
          clear y1 y2 y3 c1 c2 c5 c6
          gi_wp2_with fail
          exact ⟨⟨j + 1, _, _, _, _, _, _, _, _, _, _, _, _, _, _, _, _, _, _, _, _, _, _, _, _, _, _, _, _, _, _, _, _, _, _, _, _, _, _, _, _, _, _, _, _, _, _, _, _, _ :: ds, by omega, rfl, Lib.hid ⟨HJN.out.2.bbox, HJN.out.2.list, HJN.out.2.lbox, HJN.out.2.below, ⟨_, rfl, by omega, HJN.out.1.same _ _ (by omega) (hps ▸ HM2.out) rfl, fun d' hd' e' => by have := hlt d' hd' _ e'; omega, HJN.out.2.marks⟩, HJN.out.2.size⟩⟩, by simp [intOf]; omega⟩
      · have cb : W.cell? ⟨w.heap.size + 1 + 1, 0, none⟩ = some (.slice (some ⟨w.heap.size + 1, 0, none⟩) n n) := by rw [cell_of_row _ _ _ _ _ _ HP.out.lbox]; rfl
        have E := Lib.hid HP.out
        have hjn2 : j = n := by omega
        have HJ := Lib.hid hjn2
        clear HP hjn2
        gi_wp2_with fail
        refine leave_marks (v := .slice (some ⟨w.heap.size + 1, 0, none⟩) n n) (fun w' => by simp [results, Try.results58, go_sem]) ds W E.out.marks (fun W' hs => ?_)
        refine ⟨_, rfl, ?_, E.out.below.trans (hs.below.mono (by omega))⟩
        have hl := hs.cells E.out.list
        rw [HJ.out, part_all] at hl
        exact ⟨by simp [u64s, unpackL], .inr ⟨_, n, _, rfl, by omega, hl, Nat.le_refl _, by unfold maxLen; omega, by simp [u64s, unpackL], List.take_of_length_le (by simp [u64s, unpackL])⟩⟩
  · have hc1 : w1.cell? (ad.add q') = some (.int .u8 (last : Int)) := (HW.out.1.cell (World.block_lt_of_cell? w _ hc)).trans hc
    have hqi : ((q : Int) - 1) = (q' : Int) := by omega
    clear hc hqq
    gi_wp2_with fail
    rw [HS.out]
    refine wpIn_loop (fun A W => ∃ (j : Nat) (s2 s7 s12 s13 s14 s15 s16 s17 s18 s19 s20 s21 s22 s23 s24 s25 s26 s27 s28 s29 s30 s31 s32 s33 s34 s35 s36 s37 s38 s39 u9 u42 u43 u44 u45 u46 u47 u48 u68 u69 u70 u71 u72 u73 u74 u75 u76 u77 : Value) (ds : List Deferred), j ≤ n ∧ A = { tmps := #[Value.int IntKind.i64 ↑wd, Value.int IntKind.i64 ↑n, s2, undef, undef, Value.pointer (some { block := w.heap.size, off := 0 }), Value.slice none 0 0, s7, Value.pointer (some { block := w.heap.size + 1 + 1, off := 0 }), u9, undef, undef, s12, s13, s14, s15, s16, s17, s18, s19, s20, s21, s22, s23, s24, s25, s26, s27, s28, s29, s30, s31, s32, s33, s34, s35, s36, s37, s38, s39, Value.int IntKind.i64 ↑n, Value.int IntKind.i64 ↑j, u42, u43, u44, u45, u46, u47, u48, undef, undef, undef, undef, undef, undef, undef, undef, undef, undef, undef, undef, undef, undef, undef, undef, undef, undef, undef, u68, u69, u70, u71, u72, u73, u74, u75, u76, u77, undef], defers := ds } ∧ Hid (ReadW w bv n (partL wd n (numB bs) j) W ds)) (fun A _ => n - (intOf (A.tmps.getD 41 undef)).toNat) ?_ ?_
    · refine ⟨0, _, _, _, _, _, _, _, _, _, _, _, _, _, _, _, _, _, _, _, _, _, _, _, _, _, _, _, _, _, _, _, _, _, _, _, _, _, _, _, _, _, _, _, _, _, _, _, _, [], by omega, rfl, ?_, ?_, ?_, ?_, trivial, ?_⟩
      · exact (Below.heap_alloc _ _ _ (by simp; have := HS.out; omega)).trans ((Below.heap_alloc _ _ _ (by have := HS.out; omega)).trans HW.out.2.2)
      · rw [part_zero, ← HS.out]
        exact (Below.heap_alloc _ _ _ (by simp)).trans (alloc1 _ _)
      · have := alloc1 (w1.alloc (Obj.cells (u64s (List.replicate n 0)).toArray 44)) (Obj.cells #[Value.slice (some { block := w.heap.size + 1, off := 0 }) n n] 46)
        rw [World.size_alloc, HS.out] at this
        exact this
      · exact (HW.out.1.alloc (by have := HS.out; omega) _).alloc (by simp; have := HS.out; omega) _
      · simp; have := HS.out; omega
    · rintro A W ⟨j, s2, s7, s12, s13, s14, s15, s16, s17, s18, s19, s20, s21, s22, s23, s24, s25, s26, s27, s28, s29, s30, s31, s32, s33, s34, s35, s36, s37, s38, s39, u9, u42, u43, u44, u45, u46, u47, u48, u68, u69, u70, u71, u72, u73, u74, u75, u76, u77, ds, hj, rfl, HP⟩
      by_cases hjn : j < n
      · have hprodj : (j : Int) * (wd : Int) = ((wd * j : Nat) : Int) := by rw [Int.natCast_mul, Int.mul_comm]
        have hple : wd * j ≤ 64 * 100000 := Nat.mul_le_mul hw (by omega)
        generalize hf : wd * j = f at *
        have HFF := Lib.hid hf
        clear hf
        gi_wp2_with fail
        refine ⟨trivial, rfl, (callsIn_wide.2 (steps_any _ _ _)).mono ?_⟩
        rintro e w' ⟨rfl, rfl⟩
        gi_wp2_with fail
        have hsz := HP.out.size
        have hps : (((W.alloc (Obj.cells #[Value.int IntKind.i64 ↑j] 3)).alloc (Obj.cells #[Value.int IntKind.i64 ↑f] 3)).alloc (Obj.cells #[Value.int IntKind.i64 ↑wd] 3)).heap.size = W.heap.size + 3 := by simp
        have hJ0 : ReadJ w bv n W.heap.size j wd f (numB bs) (partL wd n (numB bs) j) ds 0 (((W.alloc (Obj.cells #[Value.int IntKind.i64 ↑j] 3)).alloc (Obj.cells #[Value.int IntKind.i64 ↑f] 3)).alloc (Obj.cells #[Value.int IntKind.i64 ↑wd] 3)) := by
          obtain ⟨a1, a2, a3⟩ := alloc3r W (Obj.cells #[Value.int IntKind.i64 ↑j] 3) (Obj.cells #[Value.int IntKind.i64 ↑f] 3) (Obj.cells #[Value.int IntKind.i64 ↑wd] 3)
          refine ⟨?_, a1, a2, a3⟩
          rw [part_self wd n (numB bs) j _ (by show _ % 2 ^ 0 = 0; omega)]
          exact HP.out.more ((((Below.refl _ _).alloc (Nat.le_refl _) _).alloc (by simp) _).alloc (by simp; omega) _)
        have hlt : ∀ d ∈ ds, ∀ D, d.target = .collected D → D < W.heap.size + 3 := fun d hd D hD => by have := HP.out.marks.lt d hd D hD; omega
        generalize ((W.alloc (Obj.cells #[Value.int IntKind.i64 ↑j] 3)).alloc (Obj.cells #[Value.int IntKind.i64 ↑f] 3)).alloc (Obj.cells #[Value.int IntKind.i64 ↑wd] 3) = W3 at *
        refine range_law (gf := 48) (lb := #[Value.pointer (some { block := W.heap.size + 1 + 1, off := 0 }), Value.pointer (some { block := W.heap.size + 1, off := 0 })]) rfl (enters_of Try.func48 (by kernel_rfl) rfl)
          (encs := stepsE f wd) (fun x hx => by obtain ⟨p, _, rfl⟩ := List.mem_map.1 hx; rfl) (steps_seq _ _ wd f hw (by omega))
          (ReadJ w bv n W.heap.size j wd f (numB bs) (partL wd n (numB bs) j) ds) (ReadJ.own (by rw [hps]; exact hlt) (by omega) (by omega)) (fun k X h => ⟨by rw [cell_of_row _ _ _ _ _ _ h.bw]; rfl, by rw [cell_of_row _ _ _ _ _ _ h.bf]; rfl⟩) hJ0
          (fun s X => ReadJ w bv n W.heap.size j wd f (numB bs) (partL wd n (numB bs) j) ds s.1 X ∧ ∃ d at', (stepsL f wd 0)[s.1]? = some (d, at') ∧
            s.2 = { tmps := #[Value.int IntKind.i64 ↑wd, Value.int IntKind.i64 ↑n, s2, undef, undef, Value.pointer (some { block := w.heap.size, off := 0 }), Value.slice none 0 0, s7, Value.pointer (some { block := w.heap.size + 1 + 1, off := 0 }), Value.pointer (some { block := W.heap.size, off := 0 }), Value.int IntKind.i64 (d : Nat), Value.int IntKind.i64 (at' : Nat), s12, s13, s14, s15, s16, s17, s18, s19, s20, s21, s22, s23, s24, s25, s26, s27, s28, s29, s30, s31, s32, s33, s34, s35, s36, s37, s38, s39, Value.int IntKind.i64 ↑n, Value.int IntKind.i64 ↑j, Value.bool true, Value.int IntKind.i64 ↑j, Value.int IntKind.i64 ↑j, Value.int IntKind.i64 ↑wd, Value.int IntKind.i64 ↑f, Value.int IntKind.i64 ↑wd, Value.func (Fn.func 48) #[] #[Value.pointer (some { block := W.heap.size + 1 + 1, off := 0 }), Value.pointer (some { block := W.heap.size + 1, off := 0 })], Value.int IntKind.i64 (d : Nat), Value.int IntKind.i64 (at' : Nat), undef, undef, undef, undef, undef, undef, undef, undef, undef, undef, undef, undef, undef, undef, undef, undef, undef, u68, u69, u70, u71, u72, u73, u74, u75, u76, u77, undef], defers := [] }) ?_ ?_ ?_ ?_
        · intro s X Y row h hg hr
          exact ⟨ReadJ.own (by rw [hps]; exact hlt) (by omega) (by omega) s.1 X Y row h.1 hg hr, h.2⟩
        · intro l' k hq X K h hK
          obtain ⟨d, at', hget, e⟩ := stepsE_getr hq
          rw [e]
          have HK := Lib.hid hK
          have HG2 := Lib.hid hget
          have HP2 := Lib.hid h
          clear hK e hget h
          simp only [List.zip_toArray, List.zip_cons_cons, List.zip_nil_right, List.foldl_toArray, List.foldl_cons, List.foldl_nil, List.setIfInBounds_toArray, List.set_cons_succ, List.set_cons_zero]
          gi_wp2
          exact HK.out _ _ (KeepsFrom.refl _ _) ⟨HP2.out, d, at', HG2.out, rfl⟩
        · rintro l' k hk a₁ X ⟨h, d, at', hget, rfl⟩
          obtain ⟨hd1, hd2⟩ := stepD_get f wd k (by simpa [stepsE] using hk)
          rw [hget] at hd1
          obtain ⟨rfl, rfl⟩ : d = stepD f k ∧ at' = f + stepD f k := by simpa using hd1
          have hstep : stepD f (k + 1) = stepD f k + (8 - (f + stepD f k) % 8) := rfl
          have hlist := h.main.list
          have hbb := h.main.bbox
          obtain ⟨ab, cb', hbf, _⟩ := HBV.out.form
          rw [u8s_len] at hbf
          have hbx := HBV.out.below h.main.below
          rw [hbf] at hbx hbb
          have hat : (f + stepD f k) / 8 < bs.length := by
            have h1 : f + wd ≤ wd * n := by
              rw [← HFF.out, ← Nat.mul_succ]; exact Nat.mul_le_mul_left _ (by omega)
            rw [HT.out] at h1
            have := HBL.out
            omega
          obtain ⟨ad, rfl⟩ := hbx.ptr (by omega)
          have c1 : X.cell? ⟨w.heap.size + 1 + 1, 0, none⟩ = some (.slice (some ⟨w.heap.size + 1, 0, none⟩) n n) := by rw [cell_of_row _ _ _ _ _ _ h.main.lbox]; rfl
          have c2 : X.cell? ⟨W.heap.size, 0, none⟩ = some (.int .i64 (j : Int)) := by rw [cell_of_row _ _ _ _ _ _ h.bi]; rfl
          have c3 : X.cell? ⟨w.heap.size, 0, none⟩ = some (.slice (some ad) bs.length cb') := by rw [cell_of_row _ _ _ _ _ _ hbb]; rfl
          have c4 : X.cell? (ad.add ((f + stepD f k) / 8)) = some (.int .u8 (bs[(f + stepD f k) / 8].toNat : Int)) := hbx.cell (by rw [u8s, List.getElem?_map, List.getElem?_eq_getElem hat]; rfl)
          have c5 : X.cell? ⟨w.heap.size + 1, j, none⟩ = some (.int .u64 ((numB bs / 2 ^ f % 2 ^ stepD f k % 2 ^ 64 : Nat) : Int)) := by
            rw [cell_of_row _ _ _ _ _ _ hlist]
            simp [u64s, part_len, hjn]
          have c6 := free_of_row hlist j
          have hbv := numB_at bs ((f + stepD f k) / 8) hat
          have hu := unpack_step (numB bs) f (stepD f k) (by omega)
          rw [← hstep] at hu
          have hpe := piece_eq (numB bs) (f + stepD f k)
          rw [← hbv] at hpe
          rw [← hpe] at hu
          have hblt := bs[(f + stepD f k) / 8].toNat_lt
          have hold : numB bs / 2 ^ f % 2 ^ stepD f k % 2 ^ 64 < 18446744073709551616 := Nat.mod_lt _ (by omega)
          have hst := fun S => h.main.store (i := j) (UInt64.ofNat (numB bs / 2 ^ f % 2 ^ stepD f (k + 1))) S
          simp only [ofNat_toNat64, List.set_set] at hst
          rw [← hu] at hst
          have hbi := fun v => heap_other (j := j) (v := v) (g := w.heap.size + 1) h.bi (by omega)
          have hbf2 := fun v => heap_other (j := j) (v := v) (g := w.heap.size + 1) h.bf (by omega)
          have hbw2 := fun v => heap_other (j := j) (v := v) (g := w.heap.size + 1) h.bw (by omega)
          have HFIN : Hid (∀ S, KeepsFrom S X (X.setCell ⟨w.heap.size + 1, j, none⟩ (.int .u64 ((numB bs / 2 ^ f % 2 ^ stepD f k % 2 ^ 64 ||| bs[(f + stepD f k) / 8].toNat / 2 ^ ((f + stepD f k) % 8) * 2 ^ stepD f k % 2 ^ 64 : Nat) : Int))).drew ∧
              ReadJ w bv n W.heap.size j wd f (numB bs) (partL wd n (numB bs) j) ds (k + 1) (X.setCell ⟨w.heap.size + 1, j, none⟩ (.int .u64 ((numB bs / 2 ^ f % 2 ^ stepD f k % 2 ^ 64 ||| bs[(f + stepD f k) / 8].toNat / 2 ^ ((f + stepD f k) % 8) * 2 ^ stepD f k % 2 ^ 64 : Nat) : Int))).drew) :=
            Lib.hid (fun S => ⟨(hst S).1, (hst S).2, hbi _, hbf2 _, hbw2 _⟩)
          clear hst hbi hbf2 hbw2 hu hpe hbv h hlist hbb hbf hbx
          have hd64 : stepD f k ≤ 64 := by omega
          have q7 : (f + stepD f k) % 8 < 8 := by omega
          have hz : bs[(f + stepD f k) / 8].toNat / 2 ^ ((f + stepD f k) % 8) * 2 ^ stepD f k % 2 ^ 64 < 18446744073709551616 := Nat.mod_lt _ (by omega)
          have hor := or_u64 _ _ hold hz
          have y1 : ((bs[(f + stepD f k) / 8].toNat : Nat) : Int) / 2 ^ ((f + stepD f k) % 8) = ((bs[(f + stepD f k) / 8].toNat / 2 ^ ((f + stepD f k) % 8) : Nat) : Int) := by simp
          have y2 : IntKind.u64.wrap (((bs[(f + stepD f k) / 8].toNat / 2 ^ ((f + stepD f k) % 8) : Nat) : Int) * 2 ^ stepD f k) = ((bs[(f + stepD f k) / 8].toNat / 2 ^ ((f + stepD f k) % 8) * 2 ^ stepD f k % 2 ^ 64 : Nat) : Int) := by
            rw [IntKind.wrap_u64]; simp
          have hpc : bs[(f + stepD f k) / 8].toNat / 2 ^ ((f + stepD f k) % 8) < 256 := Nat.lt_of_le_of_lt (Nat.div_le_self _ _) hblt
          generalize numB bs / 2 ^ f % 2 ^ stepD f k % 2 ^ 64 = old at *
          generalize bs[(f + stepD f k) / 8].toNat / 2 ^ ((f + stepD f k) % 8) * 2 ^ stepD f k % 2 ^ 64 = z at *
          generalize old ||| z = nw at *
          generalize bs[(f + stepD f k) / 8].toNat / 2 ^ ((f + stepD f k) % 8) = pc at *
          generalize bs[(f + stepD f k) / 8].toNat = by' at *
          have q3 : IntKind.i64.wrap (((f + stepD f k : Nat) : Int) / 8) = (((f + stepD f k) / 8 : Nat) : Int) := by rw [IntWalk.i64_in _ (by omega)]; omega
          have q5 : (((f + stepD f k : Nat)) : Int).tmod 8 = (((f + stepD f k) % 8 : Nat) : Int) := by rw [Int.tmod_eq_emod_of_nonneg (by omega)]; omega
          have hmix : Try.prog.follows .mixedOrders = true := by kernel_rfl
          have HTL := Lib.hid hget
          clear hget hd1 hstep
          generalize hT : f + stepD f k = t at *
          generalize t / 8 = i8 at *
          generalize t % 8 = r8' at *
          have hbl2 : bs.length ≤ 1000000 := by have := HQ.out; omega
          clear hT
          generalize stepD f k = d at *
          generalize bs.length = bln at *
          gi_wp2_with fail
          refine round_still_tail 17 hmix (by decide +kernel) (fun ⟨_, _, h⟩ => h) (by kernel_rfl) ?_
          simp only [List.take_succ_cons, List.take_zero, List.drop_succ_cons, List.drop_zero]
          repeat still_step
          try refine wpStill_nil ?_
          go_wp2
          rw [y2, hor]
          exact HFIN.out _
        · intro X h hD
          have HX := Lib.hid (And.intro h hD)
          clear h hD
          gi_wp2_with fail
          have hlen : (stepsE f wd).length = (stepsL f wd 0).length := by simp [stepsE]
          have hD := stepD_end f wd
          rw [← hlen] at hD
          have hlist := HX.out.1.main.list
          have c1 : X.cell? ⟨w.heap.size + 1 + 1, 0, none⟩ = some (.slice (some ⟨w.heap.size + 1, 0, none⟩) n n) := by rw [cell_of_row _ _ _ _ _ _ HX.out.1.main.lbox]; rfl
          have c2 : X.cell? ⟨W.heap.size, 0, none⟩ = some (.int .i64 (j : Int)) := by rw [cell_of_row _ _ _ _ _ _ HX.out.1.bi]; rfl
          have c5 : X.cell? ⟨w.heap.size + 1, j, none⟩ = some (.int .u64 ((numB bs / 2 ^ f % 2 ^ stepD f (stepsE f wd).length % 2 ^ 64 : Nat) : Int)) := by
            rw [cell_of_row _ _ _ _ _ _ hlist]
            simp [u64s, part_len, hjn]
          have c6 := free_of_row hlist j
          have hold : numB bs / 2 ^ f % 2 ^ stepD f (stepsE f wd).length % 2 ^ 64 < 18446744073709551616 := Nat.mod_lt _ (by omega)
          have y3 := mask_and wd _ hw hold
          rw [mask_done _ _ _ hD hw] at y3
          have y1 := mask_eq wd hw
          have y2 := mask_not wd hw
          have hst := fun S => HX.out.1.main.store (i := j) (UInt64.ofNat (numB bs / 2 ^ f % 2 ^ wd)) S
          rw [← HFF.out, part_step, HFF.out] at hst
          have hsmall : numB bs / 2 ^ f % 2 ^ wd < 2 ^ 64 := Nat.lt_of_lt_of_le (Nat.mod_lt _ (Nat.two_pow_pos _)) (Nat.pow_le_pow_right (by omega) hw)
          simp only [ofNat_toNat64] at hst
          rw [Nat.mod_eq_of_lt hsmall] at hst
          have HST := Lib.hid hst
          have hmix : Try.prog.follows .mixedOrders = true := by kernel_rfl
          have HM2 := Lib.hid (HX.out.2)
          clear hst hlist hD hlen hsmall
          generalize numB bs / 2 ^ f % 2 ^ stepD f (stepsE f wd).length % 2 ^ 64 = old at *
          generalize numB bs / 2 ^ f % 2 ^ wd = nw at *
          generalize 18446744073709551616 - 2 ^ wd = M1 at *
          generalize 2 ^ wd - 1 = M2 at *
          refine wide_still_tail 9 hmix (fun ⟨_, _, h⟩ => by obtain ⟨v, h1, _⟩ := h; cases h1) (by kernel_rfl) ?_
          simp only [List.take_succ_cons, List.take_zero, List.drop_succ_cons, List.drop_zero]
          repeat still_step
          try refine wpStill_nil ?_
          go_wp2
          have hJN := HST.out (w.heap.size + 3)
          have HJN := Lib.hid hJN
          clear y1 y2 y3 c1 c2 c5 c6
          gi_wp2_with fail
          exact ⟨⟨j + 1, _, _, _, _, _, _, _, _, _, _, _, _, _, _, _, _, _, _, _, _, _, _, _, _, _, _, _, _, _, _, _, _, _, _, _, _, _, _, _, _, _, _, _, _, _, _, _, _, _ :: ds, by omega, rfl, Lib.hid ⟨HJN.out.2.bbox, HJN.out.2.list, HJN.out.2.lbox, HJN.out.2.below, ⟨_, rfl, by omega, HJN.out.1.same _ _ (by omega) (hps ▸ HM2.out) rfl, fun d' hd' e' => by have := hlt d' hd' _ e'; omega, HJN.out.2.marks⟩, HJN.out.2.size⟩⟩, by simp [intOf]; omega⟩
      · have cb : W.cell? ⟨w.heap.size + 1 + 1, 0, none⟩ = some (.slice (some ⟨w.heap.size + 1, 0, none⟩) n n) := by rw [cell_of_row _ _ _ _ _ _ HP.out.lbox]; rfl
        have E := Lib.hid HP.out
        have hjn2 : j = n := by omega
        have HJ := Lib.hid hjn2
        clear HP hjn2
        gi_wp2_with fail
        refine leave_marks (v := .slice (some ⟨w.heap.size + 1, 0, none⟩) n n) (fun w' => by simp [results, Try.results58, go_sem]) ds W E.out.marks (fun W' hs => ?_)
        refine ⟨_, rfl, ?_, E.out.below.trans (hs.below.mono (by omega))⟩
        have hl := hs.cells E.out.list
        rw [HJ.out, part_all] at hl
        exact ⟨by simp [u64s, unpackL], .inr ⟨_, n, _, rfl, by omega, hl, Nat.le_refl _, by unfold maxLen; omega, by simp [u64s, unpackL], List.take_of_length_le (by simp [u64s, unpackL])⟩⟩
end Go.Proofs.Ytbijpjoljljlpaa
