/- What act does to a disk in the rounds of VfsApart: Write, and kinds below 0. Conditions: a disk that was made, an empty reference disk. -/
import Derived.Test.YtddhhgbbeeeieaaApartB
import Derived.Test.YtddhhgbbeeeieaaVfsLend
import Derived.Test.YtddhhgbbeeeieaaVfsKept
import Derived.Test.YtddhhgbbeeeieaaVfsKeeps
set_option maxRecDepth 100000
namespace Go.Proofs.Ytddhhgbbeeeieaa
open Go.RowKit Go.Maps Go.Sort

def u8O (l : List UInt8) : Obj := .cells (u8s l).toArray 5 (0, 0)

section
variable {w0 w w' : World} {p : Nat} {nm dat : List UInt8} {lo hi : Int} {X : List (Nat × Obj)}
theorem StA.grow {ob : Obj} (h : StA w0 p nm dat lo hi X w) (hb : Below w.heap.size w w') (hg : w'.heap[w.heap.size]? = some ob) : StA w0 p nm dat lo hi ((w.heap.size, ob) :: X) w' := by
  obtain ⟨T, D, h1, h2, h3, h4, h5⟩ := h
  refine ⟨T, D, h1.below hb, h2.trans (hb.mono h2.size), h3, h4, fun x hx => ?_⟩
  rcases List.mem_cons.1 hx with rfl | hx
  · refine ⟨?_, h2.size, hg⟩
    cases ht : T w.heap.size with
    | none => rfl
    | some y => have := h1.bound w.heap.size (by rw [ht]; simp); omega
  · refine ⟨(h5 x hx).1, (h5 x hx).2.1, ?_⟩
    have := (h5 x hx).2.2
    rw [hb.block x.1 (Array.getElem?_eq_some_iff.1 this).1]; exact this
theorem StA.set8 {g j : Nat} {xs : List UInt8} (h : StA w0 p nm dat lo hi [(g, u8O xs)] w) (c : UInt8) : StA w0 p nm dat lo hi [(g, u8O (xs.set j c))] (w.setCell ⟨g, j, none⟩ (.int .u8 (c.toNat : Int))) := by
  obtain ⟨T, D, h1, h2, h3, h4, h5⟩ := h
  have hg := h5 (g, u8O xs) (List.mem_cons_self ..)
  have hk : Kept (fun k => k = g) w (w.setCell ⟨g, j, none⟩ (.int .u8 (c.toNat : Int))) := (Kept.refl (fun k => k = g) w).setCell (p := ⟨g, j, none⟩) (.inl rfl) _
  refine ⟨T, D, h1.kept hk (fun k e => by rw [e]; exact hg.1), h2.trans (hk.below h2.size (fun x e => by rw [e]; exact hg.2.1)), h3, h4, fun x hx => ?_⟩
  obtain rfl : x = (g, u8O (xs.set j c)) := by simpa using hx
  exact ⟨hg.1, hg.2.1, set_u8s hg.2.2 c⟩
end

section
variable {w0 w : World} {p q : Nat} {nm dat : List UInt8} {o n m : Int} {t : ByteArray} {dv kv : Value} (s : ByteArray)

set_option maxHeartbeats 4000000 in
theorem act_low {kd : Int} (hkd : kd < 0) (h : StA w0 p nm dat o o [(q, refO)] w) :
    Calls Try.prog 10 #[.pointer (some ⟨p, 0, none⟩), .pointer (some ⟨q, 0, none⟩), .agg #[.int .i64 kd, .string s, .string t, .int .i64 n, .int .i64 m, dv, kv]] w fun e w' => IsB e ∧ Hid (StA w0 p nm dat o (o + 1) [] w') := by
  have h1 := h.alloc (actO kd n m s t dv kv)
  obtain ⟨c0, _, _, _⟩ := actO_cell (h1.at (List.mem_cons_self ..))
  have HS : Hid (StA w0 p nm dat o (o + 1) [] (w.alloc (actO kd n m s t dv kv))) := by
    obtain ⟨T, D, h1, h2, h3, h4, h5⟩ := h1
    exact ⟨T, D, h1, h2, h3, h4.same, fun x hx => by cases hx⟩
  have e0 : (kd == 0) = false := by simp; omega
  have e1 : (kd == 1) = false := by simp; omega
  have e2 : (kd == 2) = false := by simp; omega
  have e3 : (kd == 3) = false := by simp; omega
  have e4 : (kd == 4) = false := by simp; omega
  have e5 : (kd == 5) = false := by simp; omega
  have e6 : (kd == 6) = false := by simp; omega
  have e7 : (kd == 7) = false := by simp; omega
  have e8 : (kd == 8) = false := by simp; omega
  clear h h1 hkd
  unfold actO at c0 HS
  go_enter Try.func10, Try.ntmps10
  go_wp2_with fail
  go_ret
  exact ⟨isB _, HS⟩

variable (ho1 : 0 ≤ o) (ho2 : o ≤ 100000) (hs : s.size ≤ maxLen) (hn : s.data.toList ≠ nm)
include ho1 ho2 hs hn
set_option maxHeartbeats 8000000 in
theorem act_write {a : Option Addr} {c : Nat} {l : List UInt8} (hd : Holds8 w0 (.slice a l.length c) l) (hl : l.length ≤ 100000) (h : StA w0 p nm dat o o [(q, refO)] w) :
    Calls Try.prog 10 #[.pointer (some ⟨p, 0, none⟩), .pointer (some ⟨q, 0, none⟩), .agg #[.int .i64 1, .string s, .string t, .int .i64 n, .int .i64 m, .slice a l.length c, kv]] w fun e w' => IsB e ∧ Hid (StA w0 p nm dat o (o + 1) [] w') := by
  have hql : q < w.heap.size := (Array.getElem?_eq_some_iff.1 (h.at (List.mem_cons_self ..))).1
  have h1 := h.alloc (actO 1 n m s t (.slice a l.length c) kv)
  obtain ⟨c0, c1, _, c5⟩ := actO_cell (h1.at (List.mem_cons_self ..))
  have hsz : (w.alloc (actO 1 n m s t (.slice a l.length c) kv)).heap.size = w.heap.size + 1 := by simp
  obtain ⟨nl, hnl⟩ : ∃ nl, nl = l.length := ⟨_, rfl⟩
  have LE := Lib.hid (fun W (g : Below w0.heap.size w0 W) => Lend_any (hd.below g) hl)
  have LK := Lib.hid (fun W G (g : Below w0.heap.size w0 W) (hG : W.heap[G]? = some (u8O (lendL l l.length))) => Kept_any hG (hd.below g) hl)
  have LL : Hid (nl = l.length) := Lib.hid hnl
  rw [← hnl] at LE LK h1 c0 c1 c5 hsz ⊢
  have H1 := Lib.hid h1
  have HZ := Lib.hid hsz
  have hne : ∀ G, q < G → ∀ x ∈ [(w.heap.size, actO 1 n m s t (.slice a nl c) kv), (G, u8O (lendL l nl))], x.1 ≠ q := by
    intro G hG x hx
    simp at hx
    rcases hx with rfl | rfl
    · show w.heap.size ≠ q; omega
    · show G ≠ q; omega
  have CA := Lib.hid (fun W G (g : StA w0 p nm dat o o [(w.heap.size, actO 1 n m s t (.slice a nl c) kv), (G, u8O (lendL l nl)), (q, refO)] W) => d_write ho1 ho2 s hs hn (g := G) (l := l) (n := nl) (c := nl + 1) (by rw [hnl]; exact lend_mid (by rw [← hnl]; exact g.at (x := (G, u8O (lendL l nl))) (by simp))) ⟨_, by simp; exact .inr (.inl rfl)⟩ g)
  have CB := Lib.hid (fun W G (g : StA w0 p nm dat o o [(w.heap.size, actO 1 n m s t (.slice a nl c) kv), (G, u8O (lendL l nl))] W) => d_write ho1 ho2 s hs hn (g := G) (l := l) (n := nl) (c := nl + 1) (by rw [hnl]; exact lend_mid (by rw [← hnl]; exact g.at (x := (G, u8O (lendL l nl))) (by simp))) ⟨_, by simp; exact .inr rfl⟩ g)
  have RA := Lib.hid (fun W G (hG : q < G) (g : StA w0 p nm dat o o [(w.heap.size, actO 1 n m s t (.slice a nl c) kv), (G, u8O (lendL l nl)), (q, refO)] W) => ref_step (g.sub (Y := [(q, refO), (w.heap.size, actO 1 n m s t (.slice a nl c) kv), (G, u8O (lendL l nl))]) (by simp)) (hne G hG) (fun r => ref_below (refWrite_empty r s hs a nl c)))
  have RB := Lib.hid (fun W G (hG : q < G) (g : StA w0 p nm dat o (o + 1) [(w.heap.size, actO 1 n m s t (.slice a nl c) kv), (G, u8O (lendL l nl)), (q, refO)] W) => ref_step (g.sub (Y := [(q, refO), (w.heap.size, actO 1 n m s t (.slice a nl c) kv), (G, u8O (lendL l nl))]) (by simp)) (hne G hG) (fun r => ref_below (refWrite_empty r s hs a nl c)))
  have KC := Lib.hid (fun W lo hi X (g : StA w0 p nm dat lo hi ((w.heap.size, actO 1 n m s t (.slice a nl c) kv) :: X) W) => ((actO_cell (g.at (List.mem_cons_self ..))).2.1))
  have KD := Lib.hid (fun W lo hi X (g : StA w0 p nm dat lo hi ((w.heap.size, actO 1 n m s t (.slice a nl c) kv) :: X) W) => ((actO_cell (g.at (List.mem_cons_self ..))).2.2.2))
  have HQ := Lib.hid hql
  have HLB : Hid (nl ≤ 100000) := Lib.hid (by omega)
  clear h h1 hne ho1 ho2 hs hn hql hd hl hnl hsz
  unfold actO at c0 c1 c5
  go_enter Try.func10, Try.ntmps10
  go_wp2_with fail
  refine (LE.out _ H1.out.base).mono ?_
  rintro e w1 ⟨rfl, hG, hb⟩
  have S1 := (H1.out.grow hb (show _ = some (u8O (lendL l nl)) from hG)).sub (Y := [(w.heap.size, actO 1 n m s t (.slice a nl c) kv), (w.heap.size + 1, u8O (lendL l nl)), (q, refO)]) (by rw [HZ.out]; simp)
  have HS := S1.drew
  have HW := Lib.hid (show q < w.heap.size + 1 by have := HQ.out; omega)
  obtain ⟨_, d1, _, d5⟩ := actO_cell (S1.at (List.mem_cons_self ..))
  clear hG hb S1 H1 c0 c1 c5 HZ HQ LE
  go_wp2_with fail
  generalize w.heap.size + 1 = G at *
  go_region_held3 (fun w' => w'.cell? ⟨w.heap.size, 1, none⟩ = some (.string s) ∧ w'.cell? ⟨w.heap.size, 5, none⟩ = some (.slice a nl c))
    (first | assumption | exact ⟨KC.out _ _ _ _ (by assumption), KD.out _ _ _ _ (by assumption)⟩)
    (first
      | (go_at_call 16; refine (CA.out _ G (by assumption)).mono ?_; rintro e w5 ⟨⟨r5, rfl⟩, s5⟩)
      | (go_at_call 16; refine (CB.out _ G (by assumption)).mono ?_; rintro e w5 ⟨⟨r5, rfl⟩, s5⟩)
      | (go_at_call 31; refine (RA.out _ G HW.out (by assumption)).mono ?_; rintro e w6 ⟨⟨r6, rfl⟩, s6⟩)
      | (go_at_call 31; refine (RB.out _ G HW.out (by assumption)).mono ?_; rintro e w6 ⟨⟨r6, rfl⟩, s6⟩))
  go_wp2_with fail
  refine (LK.out _ G s6.base (s6.at (x := (G, u8O (lendL l nl))) (by simp))).mono ?_
  rintro e w7 ⟨rfl, hb7⟩
  have S7 : Hid (∃ xs : List UInt8, xs.length = nl + 2 ∧ StA w0 p nm dat o (o + 1) [(G, u8O xs)] w7) := ⟨lendL l nl, by have := LL.out; rw [lendL_len l (by omega)]; omega, (s6.below hb7).sub (by simp)⟩
  have HS := s6.drew
  clear s6 hb7 LK HS d1 d5 CA CB RA RB KC KD
  go_wp2_with fail
  go_loopw [12, 70] (fun _ i wr => ∃ k : Nat, k ≤ nl ∧ i = .int .i64 k ∧ Hid (∃ xs : List UInt8, xs.length = nl + 2 ∧ StA w0 p nm dat o (o + 1) [(G, u8O xs)] wr)) (fun _ i _ => nl - (intOf i).toNat)
  case atStart => exact ⟨0, Nat.zero_le _, rfl, S7⟩
  case round =>
    obtain ⟨k, hk, rfl, HR⟩ := hrel
    have hln := LL.out
    have hlb := HLB.out
    by_cases hlt : k < nl
    · obtain ⟨xs, hx, hst⟩ := HR.out
      have hh := hst.at (List.mem_cons_self ..)
      have r0 := cell_u8s (j := 1 + k) hh (by omega)
      have r1 := free_of_row hh (1 + k)
      generalize (xs[1 + k].toNat : Int) = y at r0
      have R2 := Lib.hid (hst.set8 (j := 1 + k) 9)
      have HX := Lib.hid hx
      clear hst hh hx
      go_wp2_with fail
      go_roundw
      case rel => exact ⟨k + 1, by omega, by go_num, xs.set (1 + k) 9, by rw [List.length_set]; exact HX.out, R2.out⟩
      case measure => simp [intOf]; omega
    · obtain rfl : k = nl := by omega
      go_wp2_with fail
      go_ret
      obtain ⟨xs, _, hst⟩ := HR.out
      exact ⟨isB _, hst.sub (by simp)⟩
end
end Go.Proofs.Ytddhhgbbeeeieaa
