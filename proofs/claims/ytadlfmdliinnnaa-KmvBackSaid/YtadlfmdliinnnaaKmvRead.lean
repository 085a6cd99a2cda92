/- Contract of kmv's read at bytes that begin with a copy. Conditions: a good copy. -/
import Derived.Test.YtadlfmdliinnnaaKmvMerged
import Derived.Test.YtadlfmdliinnnaaGetDig
set_option maxRecDepth 100000
namespace Go.Proofs.Ytadlfmdliinnnaa
open Go.RowKit Go.Maps Go.Sort

theorem mk_nats (w : World) (n : Nat) (hn : n ≤ 1000) :
    (Instr.makeSlice 43 (.int .u64 (n : Int)) (.int .u64 (n : Int))).run Try.prog w = .ok (.slice (some ⟨w.heap.size, 0, none⟩) n n) (w.alloc (.cells (nats (List.replicate n 0)).toArray 32)) := by
  obtain ⟨i, hi, hz0, hz1, hz2⟩ := info_parts infoU64
  have := run_make (P := Try.prog) w 43 32 i (.int .u64 0) Try.underlying43 hi hz0 .u64 .u64 (n : Int) n (by omega) (by omega) (by rw [hz2]; omega) (by omega)
  rw [this, hz1]
  simp only [Int.toNat_natCast, Nat.mul_one, Value.cells]
  have e : madeCells #[Value.int .u64 0] n = (nats (List.replicate n 0)).toArray := by
    apply Array.toList_inj.1
    rw [toList_madeCells_one]
    simp [nats]
  rw [e]
theorem set_nats {w : World} {g j : Nat} {xs : List Nat} (h : w.heap[g]? = some (.cells (nats xs).toArray 32 (0, 0))) (c : Nat) : (w.setCell ⟨g, j, none⟩ (.int .u64 (c : Int))).heap[g]? = some (.cells (nats (xs.set j c)).toArray 32 (0, 0)) := by
  rw [heap_set h]
  congr 2
  apply Array.toList_inj.1
  simp [nats, List.map_set]
theorem cell_nats {w : World} {g j : Nat} {xs : List Nat} (h : w.heap[g]? = some (.cells (nats xs).toArray 32 (0, 0))) (hj : j < xs.length) : w.cell? ⟨g, j, none⟩ = some (.int .u64 (xs[j] : Int)) := by
  rw [cell_of_row _ _ _ _ _ _ h]
  simp [nats, hj]

theorem u8s_drop (l : List UInt8) (k : Nat) : (u8s l).drop k = u8s (l.drop k) := by simp [u8s]

/-- what is left of the bytes behind j differences -/
theorem copB_drop (l : List Nat) (rest : List UInt8) (j : Nat) (hj : j < l.length) : (copB l ++ rest).drop ((dig l.length).length + (dpart l j).length) = dig (l.getD j 0 - prevL l j) ++ ((copB l ++ rest).drop ((dig l.length).length + (dpart l (j + 1)).length)) := by
  rw [getD_at hj]
  have hsplit : ∀ k, k ≤ l.length → ∃ T, dpart l l.length = dpart l k ++ T := fun k hk => by
    have : ∀ d, k + d ≤ l.length → ∃ T, dpart l (k + d) = dpart l k ++ T := fun d => by
      induction d with
      | zero => exact fun _ => ⟨[], by simp⟩
      | succ d ih =>
        intro hd
        obtain ⟨T, hT⟩ := ih (by omega)
        exact ⟨T ++ dig (l[k + d] - prevL l (k + d)), by rw [← Nat.add_assoc, dpart_next l (k + d) (by omega), hT, List.append_assoc]⟩
    have h := this (l.length - k) (by omega)
    rwa [show k + (l.length - k) = l.length by omega] at h
  obtain ⟨T, hT⟩ := hsplit (j + 1) hj
  have e : copB l ++ rest = (dig l.length ++ dpart l j) ++ (dig (l[j] - prevL l j) ++ (T ++ rest)) := by
    unfold copB
    rw [hT, dpart_next l j hj]
    simp only [List.append_assoc]
  have e2 : copB l ++ rest = (dig l.length ++ dpart l (j + 1)) ++ (T ++ rest) := by
    rw [e, dpart_next l j hj]
    simp only [List.append_assoc]
  conv => lhs; rw [e, ← List.length_append, List.drop_left]
  conv => rhs; rw [e2, ← List.length_append, List.drop_left]

/-- a copy that was read -/
def ReadAt (w : World) (l : List Nat) (e : Ending) (w' : World) : Prop :=
  ∃ v, e = .returned (.tuple #[v, .int .i64 ((copB l).length : Int)]) ∧ w'.ownsRow w.heap.size 32 1 v l.length (nats l) ∧ Below w.heap.size w w'
def natPart (l : List Nat) (j : Nat) : List Nat := l.take j ++ List.replicate (l.length - j) 0
theorem natPart_next (A : List Nat) (m : Nat) (h : m < A.length) : (natPart A m).set m A[m] = natPart A (m + 1) := ansPart_next A m h
theorem natPart_len (A : List Nat) (m : Nat) (h : m ≤ A.length) : (natPart A m).length = A.length := ansPart_len A m h

theorem read_bounds {U E bn bc : Nat} (h0 : 0 < E) (h : U + E ≤ bn) (hc : bn ≤ bc) (hb : bn ≤ 100000) : ((E : Int) == 0) = false ∧ ¬ bc = U ∧ U ≤ bn ∧ (U : Int) ≤ (bn : Int) ∧ wrap64 ((U : Int) + (E : Int)) = ((U + E : Nat) : Int) := by
  refine ⟨?_, by omega, by omega, by omega, IntWalk.wrap64_in _ (by omega)⟩
  rw [beq_eq_false_iff_ne]; omega
theorem read_diff {d x y : Nat} (hd : d = x - y) (hyx : y ≤ x) (hx : x < 2305843009213693951) :
    IntKind.u64.wrap (2305843009213693951 - (y : Int)) = 2305843009213693951 - (y : Int) ∧ decide ((2305843009213693951 : Int) - y ≤ d) = false ∧ IntKind.u64.wrap (x : Int) = (x : Int) ∧ (y : Int) + (d : Int) = (x : Int) :=
  ⟨IntWalk.u64_in _ (by omega), decide_eq_false (by omega), IntWalk.u64_in _ (by omega), by omega⟩

set_option maxHeartbeats 6400000 in
theorem read_copy {w : World} {ad : Addr} {bn bc t : Nat} {l : List Nat} {rest : List UInt8} (h : Holds w (.slice (some ad) bn bc) (u8s (copB l ++ rest))) (hg : GoodL t l) (ht : t ≤ 64) (hb : bn ≤ 100000) :
    Calls Try.prog 47 #[.int .i64 (t : Int), .slice (some ad) bn bc] w (ReadAt w l) := by
  have hbn := h.len
  rw [u8s_len] at hbn
  have hln := hg.len
  have K1 := Get_any h (by omega)
  have e1 : copB l ++ rest = dig l.length ++ (dpart l l.length ++ rest) := by unfold copB; rw [List.append_assoc]
  rw [e1, get_dig0 _ (by omega)] at K1
  have hp := dig_pos l.length
  have hmk := mk_nats w l.length (by omega)
  have hb0 := (Below.refl w.heap.size w).alloc (Nat.le_refl _) (.cells (nats (List.replicate l.length 0)).toArray 32)
  have ha0 := alloc1 w (.cells (nats (List.replicate l.length 0)).toArray 32)
  have e0 : List.replicate l.length 0 = natPart l 0 := by simp [natPart]
  rw [e0] at hmk hb0 ha0
  have HI := Lib.hid (And.intro ha0 hb0)
  have H := Lib.hid h
  have HG := Lib.hid hg
  have HB := Lib.hid hbn
  have hd0 : (dpart l 0).length = 0 := by simp [dpart]
  have HD0 := Lib.hid hd0
  have HPL := Lib.hid (show (copB l).length = (dig l.length).length + (dpart l l.length).length by unfold copB; rw [List.length_append])
  have HDR := Lib.hid (fun j hj => copB_drop l rest j hj)
  clear h hg e1 ha0 hb0 e0 hd0
  generalize hn : l.length = n at *
  have HN := Lib.hid hn
  clear hn
  have t0 : (((dig n).length : Int) == 0) = false := by rw [beq_eq_false_iff_ne]; omega
  have t1 : decide (t < n) = false := decide_eq_false (by omega)
  generalize hD : (dig n).length = D at *
  have HDD := Lib.hid hD
  clear hD
  have hDl : D ≤ 10 := by rw [← HDD.out]; exact dig_len10 (by omega)
  go_enter Try.func47, Try.ntmps47
  go_wp2_with fail
  refine K1.mono ?_
  rintro e w' ⟨rfl, rfl⟩
  clear K1
  go_wp2_with fail
  go_loopw [7, 9, 31] (fun us ah j wr => ∃ k : Nat, j = .int .i64 k ∧ k ≤ n ∧ us = .int .i64 ((D + (dpart l k).length : Nat) : Int) ∧ ah = .int .u64 (prevL l k) ∧ Hid (wr.heap[w.heap.size]? = some (.cells (nats (natPart l k)).toArray 32 (0, 0)) ∧ Below w.heap.size w wr)) (fun _ _ j _ => n - (intOf j).toNat)
  case atStart => exact ⟨0, rfl, Nat.zero_le _, by rw [HD0.out]; rfl, rfl, HI.out⟩
  case round =>
    obtain ⟨k, rfl, hk, rfl, rfl, HR⟩ := hrel
    by_cases hlt : k < n
    · have hkl : k < l.length := by rw [HN.out]; exact hlt
      have hdr := HDR.out k hlt
      have hdn := dpart_next l k hkl
      have hlx := HG.out.lt _ (List.getElem_mem hkl)
      have hpv := prevL_le HG.out.up k hkl
      have hpn := prevL_next l k hkl
      rw [getD_at hkl] at hdr
      have hnp := natPart_next l k hkl
      have c4 := cell_nats HR.out.1 (j := k) (by rw [natPart_len _ _ (by omega)]; exact hkl)
      generalize (natPart l k)[k]'(by rw [natPart_len _ _ (by omega)]; exact hkl) = old at c4
      have f4 := free_of_row HR.out.1 k
      have hup : 0 < k → prevL l k < l[k] := fun h0 => by
        obtain ⟨k', rfl⟩ : ∃ k', k = k' + 1 := ⟨k - 1, by omega⟩
        rw [prevL_next l k' (by omega)]
        exact List.pairwise_iff_getElem.1 HG.out.up k' (k' + 1) (by omega) hkl (by omega)
      have hst := set_nats (j := k) HR.out.1 l[k]
      rw [hnp] at hst
      generalize l[k] = x at *
      generalize prevL l k = y at *
      obtain ⟨d, hd⟩ : ∃ d, d = x - y := ⟨_, rfl⟩
      rw [← hd] at hdr hdn
      obtain ⟨U, hU⟩ : ∃ U, U = D + (dpart l k).length := ⟨_, rfl⟩
      have hU2 : D + (dpart l (k + 1)).length = U + (dig d).length := by rw [hdn, List.length_append]; omega
      rw [hU2, ← hU] at hdr
      rw [← hU]
      have hdl : (dig d).length ≤ 10 := dig_len10 (by omega)
      have hdp := dig_pos d
      have hUb : U + (dig d).length ≤ bn := by
        have h1 := congrArg List.length hdr
        simp only [List.length_drop, List.length_append] at h1
        have := HB.out
        simp only [List.length_append] at this
        omega
      have HH := (H.out.below HR.out.2).drop U (by omega)
      rw [u8s_drop, hdr] at HH
      have KG := Lib.hid (Get_any HH (by have := HH.len.1; rw [u8s_len] at this; omega))
      rw [get_dig0 _ (by omega)] at KG
      have HST := Lib.hid (And.intro hst (HR.out.2.setCell (p := ⟨w.heap.size, k, none⟩) (Nat.le_refl w.heap.size) (.int .u64 (x : Int))))
      have hz1 := lt_of_heap HR.out.1
      have hyx : y ≤ x := hpv
      generalize hE : (dig d).length = E at *
      clear hE
      have HU2 := Lib.hid hU2
      have q0 : (0 : Int) ≤ (k : Int) := by omega
      have q1 : (k : Int) < (n : Int) := by omega
      obtain ⟨t2, t3, t5, t7, t9⟩ := read_bounds (bc := bc) hdp hUb (show bn ≤ bc from H.out.len.2) hb
      have t6 : bn ≤ bc := H.out.len.2
      obtain ⟨t4, t8, t10, e1⟩ := read_diff hd hyx hlx
      have HT9 := Lib.hid t9
      clear t9
      have HX := Lib.hid hlx
      have HUP := Lib.hid hup
      clear hdr hdn hnp hst HR HH hU hU2 hdl hdp hUb hlx hpv
      go_wp2_with fail
      refine KG.out.mono ?_
      rintro e w' ⟨rfl, rfl⟩
      clear KG
      have hcase : (Hid (d = 0) ∧ decide (0 < k) = false) ∨ ¬ d = 0 := by
        by_cases g : d = 0
        · refine .inl ⟨Lib.hid g, decide_eq_false ?_⟩
          intro h
          have := hup (by omega)
          omega
        · exact .inr g
      have HD1 := Lib.hid hd
      clear hd hup HUP hyx
      have HU := Lib.hid (show n - (k + 1) < n - k by omega)
      rcases hcase with ⟨g, a2⟩ | g
      · have a1 : (d == 0) = true := by rw [beq_iff_eq]; exact g.out
        have a3 : ((d : Int) == 0) = true := by rw [beq_iff_eq]; have := g.out; omega
        go_wp2_with fail
        go_roundw
        case rel => exact ⟨k + 1, by go_num, by omega, by rw [HU2.out]; exact congrArg (Value.int .i64) HT9.out, by rw [hpn], HST⟩
        case measure => simp [intOf]; omega
      · have a1 : (d == 0) = false := by rw [beq_eq_false_iff_ne]; exact g
        have a3 : ((d : Int) == 0) = false := by rw [beq_eq_false_iff_ne]; omega
        go_wp2_with fail
        go_roundw
        case rel => exact ⟨k + 1, by go_num, by omega, by rw [HU2.out]; exact congrArg (Value.int .i64) HT9.out, by rw [hpn], HST⟩
        case measure => simp [intOf]; omega
    · have hke : k = n := by omega
      have HP : Hid (ReadAt w l (.returned (.tuple #[.slice (some ⟨w.heap.size, 0, none⟩) n n, .int .i64 ((D + (dpart l k).length : Nat) : Int)])) wr) := Lib.hid (by
        have hr := HR.out
        rw [hke] at hr ⊢
        rw [← HN.out] at hr ⊢
        have e : natPart l l.length = l := by simp [natPart]
        rw [e] at hr
        refine ⟨_, by rw [HPL.out, HN.out], ?_, hr.2⟩
        exact ⟨by simp [nats], .inr ⟨w.heap.size, l.length, _, by rw [HN.out], Nat.le_refl _, hr.1, Nat.le_refl _, by have := HN.out; show l.length ≤ 9223372036854775807; omega, by simp [nats], by rw [List.toList_toArray, Nat.mul_one]; exact List.take_of_length_le (by simp [nats])⟩⟩)
      clear HR hke
      go_wp2_with fail
      refine bodyPost_ret (v := .tuple #[.slice (some ⟨w.heap.size, 0, none⟩) n n, .int .i64 ((D + (dpart l k).length : Nat) : Int)]) (by simp [results, Try.results47, go_sem]) rfl ?_
      exact HP.out
end Go.Proofs.Ytadlfmdliinnnaa
