/- Contract of heavy's Insert: a number more. Conditions: a sketch that was made. -/
import Derived.Test.YtkmonecolkamjaaHeavyTake
set_option maxRecDepth 100000
namespace Go.Proofs.Ytkmonecolkamjaa
open Go.RowKit Go.Maps Go.Sort Go.Shelf

theorem total_append (A B : CL) : total (A ++ B) = total A + total B := by simp [total]
theorem total_putL {L : CL} (hA : Asc L) (id c : Int) : total (putL id c L) = total L - cnt L id + c := by
  induction L with
  | nil => simp [putL, total, cnt]
  | cons q r ih =>
    unfold putL
    by_cases g1 : id < q.1
    · rw [if_pos g1, total_cons, cnt_none]
      · simp; omega
      · intro p hp
        rcases List.mem_cons.1 hp with rfl | hp
        · omega
        · have := asc_head hA p hp; omega
    · rw [if_neg g1]
      by_cases g2 : q.1 = id
      · rw [if_pos g2, total_cons, total_cons]
        show _ = _ - (if q.1 = id then q.2 else cnt r id) + c
        rw [if_pos g2]; simp; omega
      · rw [if_neg g2, total_cons, total_cons, ih (asc_tail hA)]
        show _ = _ - (if q.1 = id then q.2 else cnt r id) + c
        rw [if_neg g2]; omega
theorem less_cons (k : Int) (p : Int × Int) (r : CL) : less k (p :: r) = if p.2 - k ≤ 0 then less k r else (p.1, p.2 - k) :: less k r := by
  unfold less subL
  rw [List.map_cons]
  by_cases h : p.2 - k ≤ 0
  · rw [if_pos h, List.filter_cons_of_neg (by simp; omega)]
  · rw [if_neg h, List.filter_cons_of_pos (by simp; omega)]
theorem less_pos {k : Int} {L : CL} : ∀ p ∈ less k L, 1 ≤ p.2 := fun p hp => by
  have := (List.mem_filter.1 hp).2
  simp at this; omega
theorem less_len (k : Int) (L : CL) : (less k L).length ≤ L.length := by
  unfold less
  exact Nat.le_trans (List.length_filter_le _ _) (by simp [subL])
theorem total_less {k : Int} (hk : 0 ≤ k) : ∀ {L : CL}, (∀ p ∈ L, 1 ≤ p.2) → total (less k L) ≤ total L
  | [], _ => Int.le_refl _
  | p :: r, h => by
    have ih := total_less hk (L := r) fun q hq => h q (List.mem_cons_of_mem _ hq)
    have := h p (List.mem_cons_self ..)
    rw [less_cons, total_cons]
    split
    · omega
    · rw [total_cons]; simp; omega
theorem cnt_nonneg {L : CL} (h : ∀ p ∈ L, 1 ≤ p.2) (id : Int) : 0 ≤ cnt L id := by
  by_cases e : cnt L id = 0
  · omega
  · have := h _ (mem_of_cnt e); simp at this; omega

def HV.ins (V : HV) (id : Int) : HV :=
  if V.n = 1125899906842624 then V else ⟨V.m, V.n + 1, if 0 < cnt V.L id ∨ V.L.length < V.m then putL id (cnt V.L id + 1) V.L else less 1 V.L⟩
theorem HV.Good.ins {V : HV} (h : V.Good) (hA : Asc V.L) (id : Int) : (V.ins id).Good := by
  unfold HV.ins
  split
  · exact h
  · rename_i hn
    have hn' : V.n + 1 ≤ 1125899906842624 := by have := h.n50; omega
    refine ⟨h.m1, h.m64, hn', ?_, ?_, ?_⟩
    · show List.length (if _ then _ else _) ≤ V.m
      split
      · rename_i hc
        by_cases h0 : 0 < cnt V.L id
        · rw [putL_len_mem hA ⟨_, mem_of_cnt (by omega), rfl⟩]; exact h.len
        · have := putL_len V.L id (cnt V.L id + 1)
          rcases hc with hc | hc
          · exact absurd hc h0
          · omega
      · exact Nat.le_trans (less_len _ _) h.len
    · show ∀ p : Int × Int, p ∈ (if 0 < cnt V.L id ∨ V.L.length < V.m then putL id (cnt V.L id + 1) V.L else less 1 V.L) → 1 ≤ p.2
      split
      · intro p hp
        rcases putL_sub hp with rfl | hp
        · have := cnt_nonneg h.pos id
          show 1 ≤ cnt V.L id + 1; omega
        · exact h.pos p hp
      · exact less_pos
    · show total (if _ then _ else _) ≤ ((V.n + 1 : Nat) : Int)
      have := h.sum
      split
      · rw [total_putL hA]; omega
      · have := total_less (k := 1) (by omega) h.pos; omega
theorem HV.ins_m (V : HV) (id : Int) : (V.ins id).m = V.m := by unfold HV.ins; split <;> rfl

theorem Hk.loose {T : Tags} {i : Nat} {w : World} {p : Nat} {V : HV} (h : Hk p V T i w) : Hl p V.m V.n V.L T i w := by
  obtain ⟨b, h, _⟩ := h
  exact ⟨b, h⟩
theorem Goes.map {T : Tags} {i : Nat} {w w' : World} {A B : Thing} (h : Goes T i w A w') (hab : ∀ T, A T i w' → B T i w') : Goes T i w B w' := by
  obtain ⟨T', n1, e1, h1⟩ := h
  exact ⟨T', n1, e1, hab T' h1⟩
theorem HkAt.set_total {T : Tags} {i : Nat} {w : World} {p m n b : Nat} {L : CL} (h : HkAt T i w p m n b L) (n' : Nat) : HkAt T i (w.setCell ⟨p, 1, none⟩ (.int .i64 n')) p m n' b L :=
  ⟨heap_set h.head _, h.tp, h.map.of_block (Below.heap_setCell _ _ _ _ (fun e => h.ne e.symm)), h.tb⟩
theorem HkAt.drewN {T : Tags} {i : Nat} {w : World} {p m n b : Nat} {L : CL} (h : HkAt T i w p m n b L) (x : Nat) : HkAt T i (w.drewN x) p m n b L := ⟨h.head, h.tp, h.map.of_block rfl, h.tb⟩

theorem full_ins {w : World} {p m n b : Nat} {L : CL} {T : Tags} {i : Nat} (h : HkAt T i w p m n b L) (h1 : 1 ≤ m) (hn : n = 1125899906842624) (id : Int) :
    Calls Try.prog 12 #[.pointer (some ⟨p, 0, none⟩), .int .i64 id] w fun e w' => e = .returned (.tuple #[]) ∧ w = w' := by
  obtain ⟨c0, c1, c2, _⟩ := h.cells
  have KM := made_yes c0 h1
  have hn' : ((n : Int) == 1125899906842624) = true := by simp; omega
  clear c0 c2 h h1 hn
  go_enter Try.func12, Try.ntmps12
  go_wp2_with fail
  refine KM.mono ?_
  rintro e w' ⟨rfl, rfl⟩
  clear KM
  go_wp2_with fail
  refine bodyPost_ret (results_none rfl _ _ _) rfl ?_
  exact ⟨rfl, rfl⟩

set_option maxHeartbeats 4000000 in
theorem ins_new {w : World} {p m n b : Nat} {L : CL} {T : Tags} {i : Nat} (h : HkAt T i w p m n b L) (h1 : 1 ≤ m) (hm : m ≤ 64) (hn : n < 1125899906842624) {id : Int} (hid : InI id) (hl : L.length ≤ 1000) (hc : ∀ q ∈ L, 0 ≤ q.2 ∧ q.2 ≤ 2251799813685248) :
    Calls Try.prog 12 #[.pointer (some ⟨p, 0, none⟩), .int .i64 id] w fun e w' => e = .returned (.tuple #[]) ∧ Hid (Goes T i w (Hl p m (n + 1) (if 0 < cnt L id ∨ L.length < m then putL id (cnt L id + 1) L else less 1 L)) w') := by
  obtain ⟨c0, c1, c2, f0⟩ := h.cells
  have f1 := f0 1
  have KM := made_yes c0 h1
  have hn' : ((n : Int) == 1125899906842624) = false := by simp; omega
  have wn : IntKind.i64.wrap ((n : Int) + 1) = (n : Int) + 1 := by rw [IntKind.wrap_i64]; omega
  have h2 := h.set_total (n + 1)
  have hcn : 0 ≤ cnt L id ∧ cnt L id ≤ 2251799813685248 := by
    by_cases e : cnt L id = 0
    · omega
    · exact hc _ (mem_of_cnt e)
  have g1 : Else (fun x => T x = some i) w (w.setCell ⟨p, 1, none⟩ (.int .i64 ((n + 1 : Nat) : Int))) := (Else.refl _ w).setCell (.inl h.tp) _
  have hW : w.setCell ⟨p, 1, none⟩ (.int .i64 ((n + 1 : Nat) : Int)) = w.setCell ⟨p, 1, none⟩ (.int .i64 ((n : Int) + 1)) := by simp
  rw [hW] at h2 g1
  have HC := Lib.hid hc
  have HI := Lib.hid hid
  have HL := Lib.hid (And.intro hl (And.intro h1 hm))
  obtain ⟨C, hC⟩ : ∃ C, cnt L id = C := ⟨_, rfl⟩
  have HCN := Lib.hid hC
  rw [hC] at hcn
  simp only [hC]
  clear h hc hid hl h1 hm hn hC c0 c2 f0 hW
  go_enter Try.func12, Try.ntmps12
  go_wp2_with fail
  refine KM.mono ?_
  rintro e w' ⟨rfl, rfl⟩
  clear KM
  go_wp2_with fail
  obtain ⟨W, hW⟩ : ∃ W, w.setCell ⟨p, 1, none⟩ (.int .i64 ((n : Int) + 1)) = W := ⟨_, rfl⟩
  rw [hW] at h2 g1 ⊢
  clear hW c1 f1 wn
  obtain ⟨e0, e1, e2, _⟩ := h2.cells
  have HH := Lib.hid h2
  have HG := Lib.hid g1
  have lk : ∀ x, Sem.run Try.prog (Instr.lookup 55 (.map (some b)) (.int .i64 id) false) (W.drewN x) = .ok (.int .i64 C) (W.drewN x) := fun x => by rw [← HCN.out]; exact (h2.drewN x).map.lookup HI.out
  have ln : ∀ x ty, Sem.run Try.prog (Builtin.len_ #[55] ty #[.map (some b)]) (W.drewN x) = .ok (.int .i64 L.length) (W.drewN x) := fun x ty => (h2.drewN x).map.len ty
  have UP : Hid (∀ x, ∃ w3, Sem.run Try.prog (Instr.mapUpdate 55 (.map (some b)) (.int .i64 id) (.int .i64 (C + 1))) (W.drewN x) = .ok () w3 ∧ Goes T i w (Hl p m (n + 1) (putL id (C + 1) L)) w3) := Lib.hid fun x => by
    obtain ⟨w3, q1, q2, q3⟩ := (HH.out.drewN x).map.update HI.out (c := C + 1) (by unfold InI; omega) (by have := HL.out.1; unfold maxLen; omega)
    refine ⟨w3, q1, T, fun _ _ => rfl, (HG.out.drewN x).trans (Else.of_grown q3) (fun y hy => .inl (by cases hy; exact HH.out.tb)), b, ?_, HH.out.tp, q2, HH.out.tb⟩
    rw [q3.block p (lt_of_heap (HH.out.drewN x).head) (by have := HH.out.ne; simp [this])]
    exact HH.out.head
  clear h2 g1 e1
  by_cases hA : 0 < C
  · go_quiet (fail)
    obtain ⟨w3, hup, X⟩ := UP.out nq
    have FIN : Hid (Goes T i w (Hl p m (n + 1) (putL id (C + 1) L)) w3) := X
    have lk2 := lk nq
    have wc : IntKind.i64.wrap (C + 1) = C + 1 := by rw [IntKind.wrap_i64]; omega
    clear X lk ln UP e0
    go_wp2_with fail
    go_end0
    exact ⟨rfl, FIN⟩
  · have hC0 : ¬ (0 : Int) < C := hA
    by_cases hB : L.length < m
    · go_quiet (fail)
      obtain ⟨w3, hup, X⟩ := UP.out nq
      have FIN : Hid (Goes T i w (Hl p m (n + 1) (putL id (C + 1) L)) w3) := X
      have lk2 := lk nq
      have wc : IntKind.i64.wrap (C + 1) = C + 1 := by rw [IntKind.wrap_i64]; omega
      clear X lk ln UP e0
      go_wp2_with fail
      go_end0
      exact ⟨rfl, FIN⟩
    · have hd : decide (L.length < m) = false := decide_eq_false hB
      go_quiet (fail)
      have K := take_at (HH.out.drewN nq) HL.out.2.1 1 (fun q hq => by have := HC.out q hq; unfold InI; omega) (by have := HL.out.1; omega)
      clear lk ln UP e0 e2
      go_wp2_with fail
      refine K.mono ?_
      rintro e w3 ⟨rfl, X⟩
      have FIN : Hid (Goes T i w (Hl p m (n + 1) (less 1 L)) w3) := by
        exact Goes.after (fun _ _ => rfl) (HG.out.drewN nq) X.out
      clear X K
      go_wp2_with fail
      go_end0
      exact ⟨rfl, FIN⟩

theorem ins_any {T : Tags} {i : Nat} {w : World} {p : Nat} {V : HV} (h : Hk p V T i w) {id : Int} (hid : InI id) :
    Calls Try.prog 12 #[.pointer (some ⟨p, 0, none⟩), .int .i64 id] w fun e w' => e = .returned (.tuple #[]) ∧ Hid (Goes T i w (Hk p (V.ins id)) w') := by
  obtain ⟨b, hk, hG⟩ := h
  have hG' := hG.ins hk.map.asc id
  by_cases hn : V.n = 1125899906842624
  · refine (full_ins hk hG.m1 hn id).mono ?_
    rintro e w' ⟨rfl, rfl⟩
    refine ⟨rfl, Goes.start ?_⟩
    have e : V.ins id = V := by unfold HV.ins; rw [if_pos hn]
    rw [e]
    exact ⟨b, hk, hG⟩
  · refine (ins_new hk hG.m1 hG.m64 (by have := hG.n50; omega) hid (by have := hG.len; have := hG.m64; omega) (fun q hq => ?_)).mono ?_
    · have h1 := hG.pos q hq
      have h2 := le_total hG.pos q hq
      have h3 := hG.sum
      have h4 := hG.n50
      omega
    · rintro e w' ⟨rfl, H⟩
      refine ⟨rfl, H.out.map fun T' ⟨b', hb'⟩ => ⟨b', ?_, hG'⟩⟩
      unfold HV.ins
      rw [if_neg hn]
      exact hb'
end Go.Proofs.Ytkmonecolkamjaa
