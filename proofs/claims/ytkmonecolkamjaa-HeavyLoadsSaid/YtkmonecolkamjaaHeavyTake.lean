/- Contract of heavy's take: so many from each counter, those that are not above 0 go. Conditions: a sketch that was made. -/
import Derived.Test.YtkmonecolkamjaaHeavyCtr
import Derived.BigRegion
set_option maxRecDepth 100000
namespace Go.Proofs.Ytkmonecolkamjaa
open Go.RowKit Go.Maps Go.Sort Go.Shelf

def subL (k : Int) (L : CL) : CL := L.map fun p => (p.1, p.2 - k)
def less (k : Int) (L : CL) : CL := (subL k L).filter fun p => !decide (p.2 ≤ 0)
def preL (k : Int) (L : CL) (j : Nat) : CL := subL k (L.take j) ++ L.drop j
theorem asc_subL {k : Int} {L : CL} (h : Asc L) : Asc (subL k L) := by
  unfold Asc subL at *
  exact List.pairwise_map.2 h
theorem asc_preL {k : Int} {L : CL} (h : Asc L) (j : Nat) : Asc (preL k L j) := by
  have h' : Asc (L.take j ++ L.drop j) := by rw [List.take_append_drop]; exact h
  unfold Asc preL subL at *
  rw [List.pairwise_append] at h' ⊢
  refine ⟨List.pairwise_map.2 h'.1, h'.2.1, fun a ha b hb => ?_⟩
  obtain ⟨q, hq, rfl⟩ := List.mem_map.1 ha
  exact h'.2.2 q hq b hb
theorem preL_split {k : Int} {L : CL} {j : Nat} {p : Int × Int} (h : L[j]? = some p) : preL k L j = subL k (L.take j) ++ p :: L.drop (j + 1) ∧ preL k L (j + 1) = subL k (L.take j) ++ (p.1, p.2 - k) :: L.drop (j + 1) := by
  obtain ⟨hj, e⟩ := List.getElem?_eq_some_iff.1 h
  refine ⟨?_, ?_⟩
  · unfold preL
    rw [List.drop_eq_getElem_cons hj, e]
  · unfold preL
    rw [List.take_succ_eq_append_getElem hj, e]
    simp [subL]
theorem preL_len (k : Int) (L : CL) (j : Nat) : (preL k L j).length = L.length := by
  simp [preL, subL]; omega
theorem preL_end (k : Int) (L : CL) : preL k L L.length = subL k L := by simp [preL]
theorem preL_zero (k : Int) (L : CL) : preL k L 0 = L := by simp [preL, subL]

/-- what the closure of take says, on data -/
def pdLe : Lit → DataW Unit → Bool
  | _, .lit (.int .i64 c) => decide (c ≤ 0)
  | _, _ => false
theorem del_mapD (L : CL) : Lib.deleteFuncD pdLe (mapD L) = mapD (L.filter fun p => !decide (p.2 ≤ 0)) := by
  unfold mapD Lib.deleteFuncD
  simp only
  congr 1
  rw [List.filter_map]
  congr 1
theorem closLe (key c : Int) (W : World) : Calls Try.prog 48 #[.int .i64 key, .int .i64 c] W fun e w' => e = .returned (.bool (decide (c ≤ 0))) ∧ W = w' := by
  go_enter Try.func48, Try.ntmps48
  go_wp2_with fail
  go_ret
  exact ⟨rfl, rfl⟩
theorem del_ints {w : World} {b : Nat} {L : CL} (hM : MapAt w b L) :
    Calls Try.prog 47 #[.map (some b), .func (.func 48) #[] #[]] w fun e w' => e = .returned (.tuple #[]) ∧ MapAt w' b (L.filter fun p => !decide (p.2 ≤ 0)) ∧ w.grownBy w' (some b) := by
  have eg : ∀ args w, (callFunc 48 args).run Try.prog w = .ok (.enter 48 args) w := enters_of Try.func48 (by kernel_rfl) rfl
  have h := AnyDf.maps_DeleteFunc Try.delInts KI (plainElem Try.prog 3) pdLe 48 #[] b L.length (mapD L) w eg hM.own (fun W key val kl yd yp _ hk hv => by
    obtain ⟨x, rfl, rfl, _⟩ := Maps.keyOf_int_inv Try.underlying3 hk
    obtain ⟨c, rfl, hz, _⟩ := plainElem_int_inv Try.underlying3 hv
    simp only [Prod.mk.injEq] at hz
    obtain ⟨rfl, _⟩ := hz
    have := closLe x c W
    refine (by simpa using this : Calls Try.prog 48 (#[.int .i64 x, .int .i64 c] ++ #[]) W _).mono ?_
    rintro e w' ⟨rfl, rfl⟩
    exact ⟨rfl, World.grownBy.refl W none⟩)
  refine h.mono ?_
  rintro e w' ⟨rfl, ho, hg⟩
  rw [del_mapD] at ho
  exact ⟨rfl, ⟨List.Pairwise.filter _ hM.asc, fun p hp => hM.inI p (List.mem_filter.1 hp).1, own_tight ho⟩, hg⟩

/-- a sketch whatever it counts -/
def Hl (p m n : Nat) (L : CL) : Thing := fun T i w => ∃ b, HkAt T i w p m n b L
theorem Hl.framed (p m n : Nat) (L : CL) : Framed (Hl p m n L) := by
  rintro T T' i w w' ⟨b, h⟩ hT hw
  exact ⟨b, ⟨(hw p (lt_of_heap h.head) (.inr h.tp)).trans h.head, (hT p (lt_of_heap h.head)).trans h.tp, h.map.of_block (hw b h.map.lt (.inr h.tb)), (hT b h.map.lt).trans h.tb⟩⟩

/-- how the loop of take stands -/
structure TakeAt (w1 : World) (wr : World) (p m n b g : Nat) (k : Int) (L : CL) (j : Nat) : Prop where
  head : wr.heap[p]? = some (.cells #[.int .i64 m, .int .i64 n, .map (some b)] 57 (0, 0))
  row : RowP wr g L
  map : MapAt wr b (preL k L j)
  own : w1.grownBy wr (some b)
theorem take_step {w1 wr : World} {p m n b g j : Nat} {k : Int} {L : CL} (h : TakeAt w1 wr p m n b g k L j) (hA : Asc L) (hpb : p ≠ b) (hgb : g ≠ b) {q : Int × Int} (hq : L[j]? = some q) (hk : InI (q.2 - k)) (hl : L.length ≤ 100000) (o : Obj) :
    (∀ ty, (Instr.lookup 55 (.map (some b)) (.int .i64 q.1) false).run Try.prog ((wr.alloc o).drewN ty) = .ok (.int .i64 q.2) ((wr.alloc o).drewN ty)) ∧
    ∃ w3, (Instr.mapUpdate 55 (.map (some b)) (.int .i64 q.1) (.int .i64 (q.2 - k))).run Try.prog (wr.alloc o).drew = .ok () w3 ∧ TakeAt w1 w3 p m n b g k L (j + 1) := by
  have hb := h.map.lt
  have e : ∀ r, r < wr.heap.size → (wr.alloc o).heap[r]? = wr.heap[r]? := fun r hr => heap_alloc_old wr o hr
  have hM : ∀ x, MapAt ((wr.alloc o).drewN x) b (preL k L j) := fun x => h.map.of_block (e b hb)
  obtain ⟨s1, s2⟩ := preL_split (k := k) hq
  have hA' := asc_preL (k := k) hA j
  have hin : q ∈ preL k L j := by rw [s1]; simp
  have hc := cnt_mem hA' (id := q.1) (c := q.2) hin
  have hi := (h.map.inI q hin).1
  refine ⟨fun x => by have := (hM x).lookup hi; rwa [hc] at this, ?_⟩
  obtain ⟨w3, h1, h2, h3⟩ := (hM 1).update hi hk (by rw [preL_len]; unfold maxLen; omega)
  rw [s1] at h2 hA'
  obtain ⟨q1, q2⟩ := q
  rw [putL_at hA', ← s2] at h2
  refine ⟨w3, h1, ?_, ?_, h2, ?_⟩
  · rw [h3.block p (by simp [World.drewN]; have := lt_of_heap h.head; omega) (by simp [hpb])]
    exact (e p (lt_of_heap h.head)).trans h.head
  · refine h.row.of_block ?_ ?_
    · rw [h3.block g (by simp [World.drewN]; have := h.row.2; omega) (by simp [hgb])]
      exact e g h.row.2
    · exact Nat.le_trans (by simp [World.drewN]) h3.size
  · exact (h.own.andThen (World.grownBy_alloc wr o none) (fun j hj => by cases hj)).andThen (⟨h3.os, h3.tape, h3.output, h3.size, h3.block⟩ : (wr.alloc o).grownBy w3 (some b)) (fun j hj => .inr hj)

set_option maxHeartbeats 4000000 in
theorem take_at {T : Tags} {i : Nat} {w : World} {p m n b : Nat} {L : CL} (h : HkAt T i w p m n b L) (h1 : 1 ≤ m) (k : Int) (hk : ∀ q ∈ L, InI (q.2 - k)) (hl : L.length ≤ 100000) :
    Calls Try.prog 27 #[.pointer (some ⟨p, 0, none⟩), .int .i64 k] w fun e w' => e = .returned (.tuple #[]) ∧ Hid (Goes T i w (Hl p m n (less k L)) w') := by
  obtain ⟨c0, c1, c2, _⟩ := h.cells
  have KC := counters_at c0 h1 c2 h.map hl
  have HH := Lib.hid h
  have HK := Lib.hid hk
  have HL := Lib.hid hl
  clear c0 c1 c2 h1 h hk
  go_enter Try.func27, Try.ntmps27
  go_wp2_with fail
  refine KC.mono ?_
  rintro e w1 ⟨g, c, rfl, hg, hc, hR, hB⟩
  have hb := HH.out.map.lt
  have hp := lt_of_heap HH.out.head
  have X0 : Hid (TakeAt w1 w1 p m n b g k L 0) := Lib.hid
    { head := (hB.block p hp).trans HH.out.head
      row := hR
      map := by rw [preL_zero]; exact HH.out.map.of_block (hB.block b hb)
      own := World.grownBy.refl _ _ }
  have hgb : g ≠ b := by omega
  have HB := Lib.hid hB
  have hl0 : (L.length : Int) ≤ 100000 := by omega
  clear KC hR hB hg hc
  go_wp2_with fail
  go_loopw [9] (fun s9 wr => ∃ j : Nat, s9 = .int .i64 j ∧ j ≤ L.length ∧ Hid (TakeAt w1 wr p m n b g k L j)) (fun s9 _ => L.length - (intOf s9).toNat)
  case atStart => exact ⟨0, rfl, Nat.zero_le _, X0⟩
  case round =>
    clear X0
    obtain ⟨j, rfl, hj, HX⟩ := hrel
    by_cases hlt : j < L.length
    · have hz : (j : Int) < (L.length : Int) := by omega
      obtain ⟨q, hq⟩ : ∃ q, L[j]? = some q := ⟨_, List.getElem?_eq_getElem hlt⟩
      obtain ⟨r0, r1, _, _⟩ := HX.out.row.cell hq
      have hqk : InI (q.2 - k) := HK.out q (List.mem_of_getElem? hq)
      obtain ⟨hlk, w3, hup, hX3⟩ := take_step HX.out HH.out.map.asc HH.out.ne hgb hq hqk HL.out (.cells #[.int .i64 q.1, .int .i64 q.2] 50)
      have cc2 : wr.cell? ⟨p, 2, none⟩ = some (.map (some b)) := by rw [cell_of_row _ _ _ _ _ _ HX.out.head]; rfl
      have hlk1 := hlk 1
      have wk : IntKind.i64.wrap (q.2 - k) = q.2 - k := by rw [IntKind.wrap_i64]; have := hqk; unfold InI at this; omega
      have X3 := Lib.hid hX3
      have NP : p ≠ wr.heap.size := by have := lt_of_heap HX.out.head; omega
      clear hq hlk hX3 HX hqk
      go_wp2_with fail
      obtain ⟨W, hW⟩ : ∃ W, wr.alloc (.cells #[.int .i64 q.1, .int .i64 q.2] 50) = W := ⟨_, rfl⟩
      have d2 : W.cell? ⟨p, 2, none⟩ = some (.map (some b)) := by
        rw [← hW, ((Below.refl _ wr).alloc (Nat.le_refl _) _).cell (World.block_lt_of_cell? wr _ cc2)]; exact cc2
      have d0 : W.cell? ⟨wr.heap.size, 0, none⟩ = some (.int .i64 q.1) := by
        rw [cell_of_row _ _ _ _ _ _ (hW ▸ heap_alloc_new wr _)]; rfl
      rw [hW] at hup hlk1 ⊢
      have hlk2 : Sem.run Try.prog (Instr.lookup 55 (.map (some b)) (.int .i64 q.1) false) W.drew = .ok (.int .i64 q.2) W.drew := hlk1
      clear hW hlk1 cc2 r0 r1 NP
      go_region
      clear d2 d0 hup hlk2 wk
      go_wp2_with fail
      go_roundw
      case rel => exact ⟨j + 1, by go_num, by omega, X3⟩
      case measure => simp [intOf]; omega
    · obtain rfl : j = L.length := by omega
      have KD := del_ints HX.out.map
      rw [preL_end] at KD
      have cc2 : wr.cell? ⟨p, 2, none⟩ = some (.map (some b)) := by rw [cell_of_row _ _ _ _ _ _ HX.out.head]; rfl
      go_wp2_with fail
      refine KD.mono ?_
      rintro e w2 ⟨rfl, hM2, hg2⟩
      have FIN : Hid (Goes T i w (Hl p m n (less k L)) w2) := by
        have hgr := HX.out.own.trans hg2
        have el : Else (fun x => T x = some i) w w2 := (Else.of_below (O := fun x => T x = some i) HB.out).trans (Else.of_grown hgr) (fun x hx => .inl (by cases hx; exact HH.out.tb))
        refine ⟨T, fun _ _ => rfl, el, b, ?_, HH.out.tp, hM2, HH.out.tb⟩
        rw [hg2.block p (lt_of_heap HX.out.head) (by have := HH.out.ne; simp [this])]
        exact HX.out.head
      clear KD hM2 hg2
      go_wp2_with fail
      go_end0
      exact ⟨rfl, FIN⟩
end Go.Proofs.Ytkmonecolkamjaa
