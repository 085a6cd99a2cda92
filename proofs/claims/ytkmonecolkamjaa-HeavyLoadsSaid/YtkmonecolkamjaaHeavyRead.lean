/- Contract of heavy's read at the bytes of a sketch. Conditions: a sketch that was made, a total that Load takes. -/
import Derived.Test.YtkmonecolkamjaaHeavyBytes
import Derived.Test.YtkmonecolkamjaaGetDig
import Derived.Deep.RegionHeld3
set_option maxRecDepth 100000
namespace Go.Proofs.Ytkmonecolkamjaa
open Go.RowKit Go.Maps Go.Sort Go.Shelf

theorem zag_zigH {n : Int} (h : InI n) : zagN (zigH n) = n := by
  have := (zigH_eq h).1
  generalize zigH n = z at this
  by_cases g : n < 0
  · rw [zig_neg g] at this
    rw [zag_odd (by omega)]; omega
  · rw [zig_pos g] at this
    rw [zag_even (by omega)]; omega
theorem putL_snoc {A : CL} {q : Int × Int} (h : Asc (A ++ [q])) : putL q.1 q.2 A = A ++ [q] := by
  induction A with
  | nil => rfl
  | cons a r ih =>
    have h1 := asc_head h q (by simp)
    show (if q.1 < a.1 then _ else if a.1 = q.1 then _ else a :: putL q.1 q.2 r) = _
    rw [if_neg (by omega), if_neg (by omega), ih (asc_tail h)]
    rfl
theorem putL_take {L : CL} (h : Asc L) {k : Nat} {q : Int × Int} (hq : L[k]? = some q) : putL q.1 q.2 (L.take k) = L.take (k + 1) := by
  obtain ⟨hk, e⟩ := List.getElem?_eq_some_iff.1 hq
  have e1 : L.take k ++ [q] = L.take (k + 1) := by rw [List.take_succ_eq_append_getElem hk, e]
  rw [← e1]
  refine putL_snoc ?_
  rw [e1]
  exact List.Pairwise.sublist (List.take_sublist _ _) h
theorem total_take {L : CL} {k : Nat} {q : Int × Int} (hq : L[k]? = some q) : total (L.take (k + 1)) = total (L.take k) + q.2 := by
  obtain ⟨hk, e⟩ := List.getElem?_eq_some_iff.1 hq
  rw [List.take_succ_eq_append_getElem hk, e, total_append]
  simp [total]
theorem total_take_le {L : CL} (h : ∀ p ∈ L, 1 ≤ p.2) (k : Nat) : total (L.take k) ≤ total L := by
  have e : total L = total (L.take k) + total (L.drop k) := by rw [← total_append, List.take_append_drop]
  have := total_nonneg (L := L.drop k) fun p hp => h p (List.mem_of_mem_drop hp)
  omega

/-- where counter k begins; what lies there -/
def offB (V : HV) (k : Nat) : Nat := (dig V.n).length + (dig V.L.length).length + (bytesW (cwords (V.L.take k))).length
def restB (L : CL) (tail : List UInt8) (k : Nat) : List UInt8 := bytesW (cwords (L.drop k)) ++ tail
theorem cwords_append (A B : CL) : cwords (A ++ B) = cwords A ++ cwords B := by simp [cwords]
theorem bytes_form (V : HV) (tail : List UInt8) : V.bytes ++ tail = dig V.n ++ (dig V.L.length ++ restB V.L tail 0) := by
  unfold HV.bytes HV.words restB bytesW
  simp
theorem bytes_drop1 (V : HV) (tail : List UInt8) : (V.bytes ++ tail).drop (dig V.n).length = dig V.L.length ++ restB V.L tail 0 := by
  rw [bytes_form, List.drop_left]
theorem bytes_drop (V : HV) (tail : List UInt8) (k : Nat) : (V.bytes ++ tail).drop (offB V k) = restB V.L tail k := by
  have e : V.bytes ++ tail = (dig V.n ++ dig V.L.length ++ bytesW (cwords (V.L.take k))) ++ restB V.L tail k := by
    rw [bytes_form]
    unfold restB
    conv => lhs; rw [List.drop_zero, ← List.take_append_drop k V.L, cwords_append, bytesW_append]
    simp
  rw [e, show offB V k = (dig V.n ++ dig V.L.length ++ bytesW (cwords (V.L.take k))).length by unfold offB; simp [Nat.add_assoc], List.drop_left]
theorem restB_next {L : CL} {k : Nat} {q : Int × Int} (hq : L[k]? = some q) (tail : List UInt8) : restB L tail k = dig (zigH q.1) ++ (dig q.2.toNat ++ restB L tail (k + 1)) := by
  obtain ⟨hk, e⟩ := List.getElem?_eq_some_iff.1 hq
  unfold restB
  rw [List.drop_eq_getElem_cons hk, e]
  simp [cwords, bytesW]
theorem offB_zero (V : HV) : offB V 0 = (dig V.n).length + (dig V.L.length).length := by simp [offB, bytesW, cwords]
theorem offB_next {V : HV} {k : Nat} {q : Int × Int} (hq : V.L[k]? = some q) : offB V (k + 1) = offB V k + ((dig (zigH q.1)).length + (dig q.2.toNat).length) := by
  unfold offB
  rw [cwords_next hq, bytesW_append]
  simp [bytesW]; omega

theorem u8s_drop (l : List UInt8) (k : Nat) : (u8s l).drop k = u8s (l.drop k) := by simp [u8s]
/-- Get behind U bytes -/
theorem get_at {W0 wr : World} {ad : Addr} {bn bc : Nat} {xs r : List UInt8} {U x : Nat} (hH : Holds W0 (.slice (some ad) bn bc) (u8s xs)) (hB : Below W0.heap.size W0 wr) (hbn : bn ≤ 100000) (hd : xs.drop U = dig x ++ r) (hx : x < 18446744073709551616) :
    U + (dig x).length ≤ bn ∧ 0 < (dig x).length ∧ (dig x).length ≤ 10 ∧ bn ≤ bc ∧ Hid (Calls Try.prog 52 #[.slice (some (ad.add U)) (bn - U) (bc - U)] wr fun e w' => e = .returned (.tuple #[.int .u64 (x : Int), .int .i64 ((dig x).length : Int)]) ∧ wr = w') := by
  have hl := hH.len
  rw [u8s_len] at hl
  have hp := dig_pos x
  have e := congrArg List.length hd
  simp only [List.length_drop, List.length_append] at e
  refine ⟨by omega, hp, dig_len10 hx, hl.2, ?_⟩
  have HH := (hH.below hB).drop U (by omega)
  rw [u8s_drop, hd] at HH
  have K := Get_any HH (by have := HH.len.1; rw [u8s_len] at this; omega)
  rw [get_dig0 _ hx] at K
  exact K

theorem HkAt.put {T : Tags} {i : Nat} {w w' : World} {p m n b : Nat} {L L' : CL} (h : HkAt T i w p m n b L) (hM : MapAt w' b L') (hg : w.grownBy w' (some b)) : HkAt T i w' p m n b L' :=
  ⟨(hg.block p (lt_of_heap h.head) (fun e => h.ne (Option.some.inj e))).trans h.head, h.tp, hM, h.tb⟩

theorem read_sums {U E A1 A2 F C bn bc n : Nat} (g1 : U + E + A1 ≤ bn) (g2 : 0 < A1) (g3 : A1 ≤ 10) (g5 : U + E + A1 + A2 ≤ bn) (g6 : 0 < A2) (g7 : A2 ≤ 10) (g4 : bn ≤ bc) (hbn : bn ≤ 100000) (hCF : C ≤ F) (hC1 : 1 ≤ C) (hF : F ≤ n) (hn : n ≤ 1099511627776) :
    IntKind.u64.wrap ((F : Int) - (C : Int)) = ((F - C : Nat) : Int) ∧
    (¬ bc = U + E ∧ (U : Int) + (E : Int) ≤ (bn : Int) ∧ U + E ≤ bn ∧ ¬ bc = U + E + A1 ∧ (U : Int) + (E : Int) + (A1 : Int) ≤ (bn : Int) ∧ U + E + A1 ≤ bn) ∧ (decide ((C : Int) < 1) = false ∧ decide ((F : Int) < (C : Int)) = false ∧ IntKind.i64.wrap (C : Int) = (C : Int)) ∧ (F - C ≤ n ∧ U + E ≤ 200000 ∧ A1 + A2 ≤ 200000) := by
  refine ⟨?_, ⟨by omega, by omega, by omega, by omega, by omega, by omega⟩, ⟨decide_eq_false (by omega), decide_eq_false (by omega), ?_⟩, ⟨by omega, by omega, by omega⟩⟩
  · rw [IntKind.wrap_u64]; omega
  · rw [IntKind.wrap_i64]; omega
theorem read_left {F C n : Nat} {t0 t1 tot q2 : Int} (hFe : (F : Int) = n - t0) (htt : t1 = t0 + q2) (htl : t1 ≤ tot) (hgs : tot ≤ n) (hq : q2 = (C : Int)) : C ≤ F ∧ ((F - C : Nat) : Int) = n - t1 := by omega

set_option maxHeartbeats 6400000 in
theorem read_any {T : Tags} {i : Nat} {W0 w : World} {p m b : Nat} (h : HkAt T i w p m 0 b []) (hp : W0.heap.size ≤ p) (hb : W0.heap.size ≤ b) (hB : Below W0.heap.size W0 w)
    {V : HV} (hG : V.Good) (hV : V.m = m) (hn : V.n ≤ 1099511627776) (hA : Asc V.L) (hI : ∀ q ∈ V.L, InI q.1 ∧ InI q.2)
    {ad : Addr} {bn bc : Nat} {tail : List UInt8} (hH : Holds W0 (.slice (some ad) bn bc) (u8s (V.bytes ++ tail))) (hbn : bn ≤ 100000) :
    Calls Try.prog 36 #[.pointer (some ⟨p, 0, none⟩), .slice (some ad) bn bc] w fun e w' => e = .returned (.tuple #[]) ∧ Hid (HkAt T i w' p m V.n b V.L ∧ Below W0.heap.size W0 w') := by
  obtain ⟨c0, c1, c2, f0⟩ := h.cells
  have f1 := f0 1
  have hlm := hG.len
  have hm64 := hG.m64
  rw [hV] at hlm hm64
  have K1 := Get_any (hH.below hB) (by have := (hH.len).1; rw [u8s_len] at this; omega)
  rw [bytes_form, get_dig0 _ (by omega)] at K1
  have hst := h.set_total V.n
  have hbl := hB.setCell (p := ⟨p, 1, none⟩) hp (.int .i64 (V.n : Int))
  obtain ⟨g1, g2, g3, g4, KG⟩ := get_at hH hbl hbn (bytes_drop1 V tail) (by omega)
  have ho0 := offB_zero V
  have X0 : Hid (HkAt T i (w.setCell ⟨p, 1, none⟩ (.int .i64 (V.n : Int))) p m V.n b (V.L.take 0) ∧ Below W0.heap.size W0 (w.setCell ⟨p, 1, none⟩ (.int .i64 (V.n : Int)))) := ⟨hst, hbl⟩
  obtain ⟨D, hD⟩ : ∃ D, D = (dig V.n).length := ⟨_, rfl⟩
  obtain ⟨D2, hD2⟩ : ∃ D2, D2 = (dig V.L.length).length := ⟨_, rfl⟩
  have t0 : ¬ bc = D := by rw [hD]; omega
  rw [← hD] at K1 g1 KG ho0
  rw [← hD2] at g1 g2 g3 KG ho0
  have t1 : (D : Int) ≤ (bn : Int) := by omega
  have t2 : D ≤ bn := by omega
  have tb : (bn : Int) ≤ (bc : Int) := by omega
  have tn : decide ((1099511627776 : Int) < (V.n : Int)) = false := decide_eq_false (by omega)
  have wn : IntKind.i64.wrap (V.n : Int) = (V.n : Int) := by rw [IntKind.wrap_i64]; omega
  have wm : IntKind.u64.wrap (m : Int) = (m : Int) := by rw [IntKind.wrap_u64]; omega
  have HO0 := Lib.hid ho0
  have HG := Lib.hid hG
  have HA := Lib.hid hA
  have HI := Lib.hid hI
  have HH := Lib.hid hH
  have HP := Lib.hid (And.intro hp hb)
  have HNE := Lib.hid h.ne
  have hml : (V.L.length : Int) ≤ (m : Int) := by omega
  have d1 : (w.setCell ⟨p, 1, none⟩ (.int .i64 (V.n : Int))).cell? ⟨p, 0, none⟩ = some (.int .i64 m) := hst.cells.1
  have HTB := Lib.hid (And.intro t2 g3)
  clear hst hbl h hp hb hB hG hA hI hH ho0 g1 g2 g3 hD hD2 hV f0
  go_enter Try.func36, Try.ntmps36
  go_wp2_with fail
  refine K1.mono ?_
  rintro e w1 ⟨rfl, rfl⟩
  clear K1
  go_wp2_with fail
  refine KG.out.mono ?_
  rintro e w1 ⟨rfl, rfl⟩
  clear KG c0 c1 c2 f1
  go_wp2_with fail
  have hmin : min (V.L.length : Int) (m : Int) = (V.L.length : Int) := by omega
  rw [hmin]
  have h64 : V.L.length ≤ 64 := by omega
  clear hmin d1 t0 t1 t2 tn wn wm hml
  go_loopw [5, 7, 8, 40] (fun s5 s7 s8 s40 wr => ∃ (k U E F : Nat), s5 = .int .i64 U ∧ s7 = .int .i64 E ∧ s8 = .int .u64 F ∧ s40 = .int .u64 k ∧ k ≤ V.L.length ∧ U ≤ 200000 ∧ E ≤ 200000 ∧ F ≤ V.n ∧ Hid (U + E = offB V k ∧ (F : Int) = V.n - total (V.L.take k)) ∧ Hid (HkAt T i wr p m V.n b (V.L.take k) ∧ Below W0.heap.size W0 wr)) (fun _ _ _ s _ => V.L.length - (intOf s).toNat)
  case atStart => exact ⟨0, D, D2, V.n, rfl, rfl, rfl, rfl, Nat.zero_le _, by have := HTB.out; omega, by have := HTB.out; omega, Nat.le_refl _, ⟨HO0.out.symm, by simp [total]⟩, X0.out⟩
  case round =>
    clear X0 HO0
    obtain ⟨k, U, E, F, rfl, rfl, rfl, rfl, hk, hU, hE, hF, HO, HX⟩ := hrel
    by_cases hlt : k < V.L.length
    · have hz : (k : Int) < (V.L.length : Int) := by omega
      obtain ⟨q, hq⟩ : ∃ q, V.L[k]? = some q := ⟨_, List.getElem?_eq_getElem hlt⟩
      have hqm := List.mem_of_getElem? hq
      obtain ⟨i1, i2⟩ := HI.out q hqm
      have hq1 := HG.out.pos q hqm
      obtain ⟨C, hC⟩ : ∃ C : Nat, C = q.2.toNat := ⟨_, rfl⟩
      have hCq : q.2 = (C : Int) := by omega
      have hzb := (zigH_eq i1).2
      have i2' := i2
      unfold InI at i2'
      have hr := restB_next hq tail
      rw [← hC] at hr
      have hd1 := bytes_drop V tail k
      rw [hr] at hd1
      obtain ⟨g1, g2, g3, g4, KA⟩ := get_at HH.out HX.out.2 hbn hd1 hzb
      have hd2 : (V.bytes ++ tail).drop (offB V k + (dig (zigH q.1)).length) = dig C ++ restB V.L tail (k + 1) := by
        rw [← List.drop_drop, hd1, List.drop_left]
      obtain ⟨g5, g6, g7, _, KB⟩ := get_at HH.out HX.out.2 hbn hd2 (by omega)
      have hon := offB_next hq
      rw [← hC] at hon
      have htt := total_take hq
      have htl := total_take_le HG.out.pos (k + 1)
      have hgs := HG.out.sum
      have hFe := HO.out.2
      obtain ⟨O, hOe⟩ : ∃ O, O = offB V k := ⟨_, rfl⟩
      obtain ⟨A1, hA1⟩ : ∃ A1, A1 = (dig (zigH q.1)).length := ⟨_, rfl⟩
      obtain ⟨A2, hA2⟩ : ∃ A2, A2 = (dig C).length := ⟨_, rfl⟩
      have hUE := HO.out.1
      rw [← hOe, ← hA1] at g1 g5 KA KB
      rw [← hA1] at g2 g3
      rw [← hA2] at g5 g6 g7 KB
      rw [← hOe] at hUE hon
      rw [← hA1, ← hA2] at hon
      obtain ⟨hCF, hleft⟩ := read_left hFe htt htl hgs hCq
      have hC1 : 1 ≤ C := by rw [hCq] at hq1; exact Int.ofNat_le.1 hq1
      subst hUE
      obtain ⟨s4, ⟨b1, b2, b3, b4, b5, b6⟩, ⟨v1, v2, v3⟩, hfc⟩ := read_sums g1 g2 g3 g5 g6 g7 g4 hbn hCF hC1 hF hn
      have HFC := Lib.hid hfc
      have v4 : ¬ F < C := Nat.not_lt.2 hCF
      have v5 : ¬ C < 1 := Nat.not_lt.2 hC1
      have KZ := fun W => Lib.hid (Zag_any (zigH q.1) W hzb)
      rw [zag_zigH i1] at KZ
      have c2 : wr.cell? ⟨p, 2, none⟩ = some (.map (some b)) := HX.out.1.cells.2.2.1
      obtain ⟨w', hup, hM, hgr⟩ := (HX.out.1.map.of_block (w' := wr.drew) rfl).update (id := q.1) (c := (C : Int)) i1 (by rw [← hCq]; exact i2) (by rw [List.length_take]; unfold maxLen; omega)
      rw [← hCq, putL_take HA.out hq] at hM
      have HX2 : Hid (HkAt T i w' p m V.n b (V.L.take (k + 1)) ∧ Below W0.heap.size W0 w') := Lib.hid ⟨(HX.out.1.drewN 1).put hM hgr, (HX.out.2.trans ((below_drew wr).mono HX.out.2.size)).trans (below_grown hgr (by exact HX.out.2.size) (fun x hx => by cases hx; exact HP.out.2))⟩
      have HO2 : Hid (U + E + (A1 + A2) = offB V (k + 1) ∧ ((F - C : Nat) : Int) = V.n - total (V.L.take (k + 1))) := Lib.hid ⟨hon.symm, hleft⟩
      have S2 : Hid (w'.cell? ⟨p, 2, none⟩ = some (.map (some b))) := Lib.hid HX2.out.1.cells.2.2.1
      clear hfc hleft hCF hC1 hq hqm i1 i2 hq1 hC hCq hzb i2' hr hd1 hd2 g1 g2 g5 g6 hon htt htl hgs hFe hOe hA1 hA2 HX HO hM hgr
      go_wp2_with fail
      refine KA.out.mono ?_
      rintro e w1 ⟨rfl, rfl⟩
      clear KA
      go_wp2_with fail
      refine KB.out.mono ?_
      rintro e w1 ⟨rfl, rfl⟩
      clear KB b1 b2 b3 b4 b5 b6 g4
      go_wp2_with fail
      have hup1 : Sem.run Try.prog (Instr.mapUpdate 55 (.map (some b)) (.int .i64 q.1) (.int .i64 (C : Int))) wr.drew = .ok () w' := hup
      clear hup
      go_region_held3 (fun w' => w'.cell? ⟨p, 2, none⟩ = some (.map (some b)))
        (first | assumption | exact S2.out | exact c2)
        (first | (go_at_call 53; refine (KZ _).out.mono ?_; rintro e w6 ⟨rfl, rfl⟩))
      rename_i hheld
      clear hheld hup1 S2 c2 KZ v1 v2 v3 v4 v5 s4
      go_wp2_with fail
      go_roundw
      case rel => exact ⟨k + 1, U + E, A1 + A2, F - C, by go_num, by go_num, rfl, by go_num, by omega, HFC.out.2.1, HFC.out.2.2, HFC.out.1, HO2.out, HX2.out⟩
      case measure => simp [intOf]; omega
    · obtain rfl : k = V.L.length := by omega
      have HF : Hid (HkAt T i wr p m V.n b V.L ∧ Below W0.heap.size W0 wr) := Lib.hid (by have := HX.out; rw [List.take_length] at this; exact this)
      clear HX HO
      go_wp2_with fail
      go_end0
      exact ⟨rfl, HF⟩
end Go.Proofs.Ytkmonecolkamjaa
