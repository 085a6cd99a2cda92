/- The texts RqrA RqrP RqrQ RqrB VbRefLoad RqrC, one behind the other; each one's own comment says what it holds. -/
import Derived.Test.YtehfoaicohnpfaaGreatDoorRecordScansRowGD
import Derived.Test.YtehfoaicohnpfaaGreatDoorRecA
import Derived.Test.YtehfoaicohnpfaaGreatDoorCodecRefGet
import Derived.Test.YtehfoaicohnpfaaGreatDoorRecordScansRowGB
import Derived.Test.YtehfoaicohnpfaaGreatDoorRecordScansRowGH
import Derived.Test.YtehfoaicohnpfaaGreatDoorSched2
/- The document's reader of records: numbers, counts and texts; when it has gone wrong it goes on. Conditions: at most 1000000 bytes. -/
set_option maxRecDepth 100000
namespace Go.Proofs.YtehfoaicohnpfaaGreatDoor
open Go.RowKit Go.Maps Go.Sort Go.Lib

/-- bytes that have not been read, and: has it gone wrong? -/
abbrev RS := List UInt8 × Bool
def numF (s : RS) : Nat × RS := if (getN s.1).2 = 0 then (0, ([], true)) else ((getN s.1).1, (s.1.drop (getN s.1).2, s.2))
def cntF (s : RS) : Nat × RS := if (numF s).2.1.length < (numF s).1 then (0, ((numF s).2.1, true)) else numF s
def txtF (s : RS) : ByteArray × RS := (⟨((cntF s).2.1.take (cntF s).1).toArray⟩, ((cntF s).2.1.drop (cntF s).1, (cntF s).2.2))
theorem numF_len (s : RS) : (numF s).2.1.length ≤ s.1.length := by
  unfold numF
  split
  · simp
  · simp
theorem cntF_len (s : RS) : (cntF s).2.1.length ≤ s.1.length := by
  unfold cntF
  split
  · exact numF_len s
  · exact numF_len s
theorem cntF_le (s : RS) : (cntF s).1 ≤ (cntF s).2.1.length := by
  unfold cntF
  split
  · exact Nat.zero_le _
  · omega
theorem txtF_len (s : RS) : (txtF s).2.1.length ≤ s.1.length := by
  have := cntF_len s
  simp only [txtF, List.length_drop]
  omega
theorem numF_t (s : RS) (h : s.2 = true) : (numF s).2.2 = true := by
  unfold numF
  split
  · rfl
  · exact h
theorem cntF_t (s : RS) (h : s.2 = true) : (cntF s).2.2 = true := by
  unfold cntF
  split
  · rfl
  · exact numF_t s h
theorem txtF_t (s : RS) (h : s.2 = true) : (txtF s).2.2 = true := cntF_t s h
/-- the reader in memory -/
def RdAt (w : World) (p : Nat) (s : RS) : Prop := ∃ a n c, w.heap[p]? = some (.cells #[.slice a n c, .bool s.2] 73 (0, 0)) ∧ Holds w (.slice a n c) (u8s s.1) ∧ ∀ ad, a = some ad → 0 < n → ad.block < p
theorem RdAt.lt {w : World} {p : Nat} {s : RS} (h : RdAt w p s) : p < w.heap.size := by obtain ⟨a, n, c, h1, _⟩ := h; exact lt_of_heap h1
theorem RdAt.next {w w' : World} {p : Nat} {s : RS} (h : RdAt w p s) (hb : Below w.heap.size w w') : RdAt w' p s := by
  obtain ⟨a, n, c, h1, h2, h3⟩ := h
  exact ⟨a, n, c, (hb.block p (lt_of_heap h1)).trans h1, h2.below hb, h3⟩
theorem RdAt.frame {w w' : World} {p : Nat} {s : RS} (h : RdAt w p s) (hk : ∀ k, k ≤ p → w'.heap[k]? = w.heap[k]?) : RdAt w' p s := by
  obtain ⟨a, n, c, h1, h2, h3⟩ := h
  refine ⟨a, n, c, (hk p (Nat.le_refl _)).trans h1, ?_, h3⟩
  have hn := h2.len.1
  obtain ⟨a', c', e, h4, h5⟩ := h2
  simp only [Value.slice.injEq] at e
  obtain ⟨rfl, rfl, rfl⟩ := e
  refine ⟨a, c, rfl, h4, ?_⟩
  rcases h5 with h5 | ⟨ad, rfl, h6⟩
  · exact .inl h5
  · refine .inr ⟨ad, rfl, fun j u hj => ?_⟩
    have hpos : 0 < (u8s s.1).length := by have := (List.getElem?_eq_some_iff.1 hj).1; omega
    rw [World.cell?_of_block (w := w) (by rw [Addr.add_block]; exact hk _ (Nat.le_of_lt (h3 ad rfl hpos)))]
    exact h6 j u hj
/-- what comes out -/
def RdP (p : Nat) (w : World) (v : Value) (s' : RS) (e : Ending) (w' : World) : Prop := e = .returned v ∧ RdAt w' p s' ∧ Else (fun k => k = p) w w'
theorem RdAt.slice {w : World} {p : Nat} {s : RS} {a a' : Option Addr} {n c n' c' : Nat} {l : List UInt8} (h1 : w.heap[p]? = some (.cells #[.slice a n c, .bool s.2] 73 (0, 0))) (h2 : Holds w (.slice a' n' c') (u8s l)) (h3 : ∀ ad, a' = some ad → 0 < n' → ad.block < p) :
    RdAt (w.setCell ⟨p, 0, none⟩ (.slice a' n' c')) p (l, s.2) := ⟨a', n', c', heap_set h1 _, h2.else' h3 (else_set _), h3⟩
theorem RdAt.wrong {w : World} {p : Nat} {s : RS} (h : RdAt w p s) : RdAt (w.setCell ⟨p, 1, none⟩ (.bool true)) p (s.1, true) := by
  obtain ⟨a, n, c, h1, h2, h3⟩ := h
  exact ⟨a, n, c, heap_set h1 _, h2.else' h3 (else_set _), h3⟩
theorem bool_cell {w : World} {p : Nat} {s : RS} (h : RdAt w p s) : ∃ a n c, w.cell? ⟨p, 0, none⟩ = some (.slice a n c) ∧ w.cell? ⟨p, 1, none⟩ = some (.bool s.2) ∧ n = s.1.length ∧ w.frozen? ⟨p, 0, none⟩ = false ∧ w.frozen? ⟨p, 1, none⟩ = false := by
  obtain ⟨a, n, c, h1, h2, h3⟩ := h
  have hn := h2.len.1
  rw [u8s_len] at hn
  exact ⟨a, n, c, by rw [cell_of_row _ _ _ _ _ _ h1]; rfl, by rw [cell_of_row _ _ _ _ _ _ h1]; rfl, hn.symm, free_of_row h1 0, free_of_row h1 1⟩
set_option maxHeartbeats 800000 in
theorem rnum_at {w : World} {p : Nat} {s : RS} (h : RdAt w p s) (hl : s.1.length ≤ 1000000) :
    Calls Tryz.prog 29 #[.pointer (some ⟨p, 0, none⟩)] w (RdP p w (.int .u64 ((numF s).1 : Int)) (numF s).2) := by
  obtain ⟨l, f⟩ := s
  obtain ⟨a, n, c, h1, h2, h3⟩ := h
  simp only at h1 h2 hl
  have hn := h2.len
  rw [u8s_len] at hn
  obtain ⟨rfl, hnc⟩ := hn
  have KG := refGet_any h2 (by omega)
  have hG := getN_bound l
  have c0 : w.cell? ⟨p, 0, none⟩ = some (.slice a l.length c) := by rw [cell_of_row _ _ _ _ _ _ h1]; rfl
  have c1 : w.cell? ⟨p, 1, none⟩ = some (.bool f) := by rw [cell_of_row _ _ _ _ _ _ h1]; rfl
  have f0 := free_of_row h1 0
  have f1 := free_of_row h1 1
  by_cases hm : (getN l).2 = 0
  · have e : numF (l, f) = (0, ([], true)) := by unfold numF; rw [if_pos hm]
    rw [e]
    rw [hm] at KG
    have h1' := heap_set (j := 1) h1 (.bool true)
    have g0 := free_of_row h1' 0
    have d0 : (w.setCell ⟨p, 1, none⟩ (.bool true)).cell? ⟨p, 0, none⟩ = some (.slice a l.length c) := by rw [cell_of_row _ _ _ _ _ _ h1']; rfl
    have FIN : Hid (RdP p w (.int .u64 ((0 : Nat) : Int)) ([], true) (.returned (.int .u64 ((0 : Nat) : Int))) ((w.setCell ⟨p, 1, none⟩ (.bool true)).setCell ⟨p, 0, none⟩ (.slice none 0 0))) :=
      Lib.hid ⟨rfl, RdAt.slice (s := ([], true)) h1' (Holds.nil _) (fun ad e => by cases e), (else_set _).trans (else_set _) (fun x hx => .inl hx)⟩
    generalize (getN l).1 = u at *
    generalize l.length = m at *
    clear h1 h2 h3 hG hl e hm hnc h1'
    go_enter Tryz.func29, Tryz.ntmps29
    go_wp2_with fail
    refine KG.mono ?_
    rintro e w1 ⟨rfl, rfl⟩
    go_wp2_with fail
    go_ret
    exact FIN.out
  · have e : numF (l, f) = ((getN l).1, (l.drop (getN l).2, f)) := by unfold numF; rw [if_neg hm]
    rw [e]
    have hne : 0 < (u8s l).length := by
      rw [u8s_len]
      rcases Nat.eq_zero_or_pos l.length with g | g
      · omega
      · exact g
    obtain ⟨ad, rfl⟩ := h2.ptr (by rw [u8s_len] at hne; exact hne)
    obtain ⟨A, if1, if2, hH⟩ := cut_ahead h2 hG.1
    have hA := cut_block if1
    have hp : ∀ x, some A = some x → 0 < l.length - (getN l).2 → x.block < p := fun x ex hx => by cases ex; rw [hA]; exact h3 ad rfl (by omega)
    have FIN : Hid (RdP p w (.int .u64 ((getN l).1 : Int)) (l.drop (getN l).2, f) (.returned (.int .u64 ((getN l).1 : Int))) (w.setCell ⟨p, 0, none⟩ (.slice (some A) (l.length - (getN l).2) (c - (getN l).2)))) :=
      Lib.hid ⟨rfl, RdAt.slice (s := (l, f)) h1 hH hp, else_set _⟩
    have hb0 : (0 : Int) ≤ ((getN l).2 : Int) := Int.natCast_nonneg _
    have hb1 : ((getN l).2 : Int) ≤ (l.length : Int) := Int.ofNat_le.2 hG.1
    have t0 : (((getN l).2 : Int) == 0) = false := bne_cast hm
    simp only
    generalize (getN l).1 = u at *
    generalize (getN l).2 = m at *
    have hb2 : (l.length : Int) ≤ (c : Int) := Int.ofNat_le.2 hnc
    generalize l.length = n at *
    clear h1 h2 h3 hG hl e hm hnc hH hA hp hne
    go_enter Tryz.func29, Tryz.ntmps29
    go_wp2_with fail
    refine KG.mono ?_
    rintro e w1 ⟨rfl, rfl⟩
    go_wp2_with fail
    go_ret
    exact FIN.out
set_option maxHeartbeats 800000 in
theorem rcnt_at {w : World} {p : Nat} {s : RS} (h : RdAt w p s) (hl : s.1.length ≤ 1000000) :
    Calls Tryz.prog 31 #[.pointer (some ⟨p, 0, none⟩)] w (RdP p w (.int .i64 ((cntF s).1 : Int)) (cntF s).2) := by
  have KN := rnum_at h hl
  have hnl := numF_len s
  unfold cntF
  obtain ⟨⟨u, q⟩, hq⟩ : ∃ v, numF s = v := ⟨_, rfl⟩
  rw [hq] at KN hnl ⊢
  simp only at KN hnl ⊢
  have HQ := Lib.hid (show q.1.length ≤ 1000000 by omega)
  clear hq hnl h hl
  by_cases hlt : q.1.length < u
  · rw [if_pos hlt]
    have HLT := Lib.hid hlt
    clear hlt
    go_enter Tryz.func31, Tryz.ntmps31
    go_wp2_with fail
    refine KN.mono ?_
    rintro e w1 ⟨rfl, hr, he⟩
    obtain ⟨a, n, c, c0, c1, rfl, f0, f1⟩ := bool_cell hr
    have FIN : Hid (RdP p w (.int .i64 ((0 : Nat) : Int)) (q.1, true) (.returned (.int .i64 ((0 : Nat) : Int))) (w1.setCell ⟨p, 1, none⟩ (.bool true))) := Lib.hid ⟨rfl, hr.wrong, he.trans (else_set _) (fun x hx => .inl hx)⟩
    have x1 : IntKind.u64.wrap (q.1.length : Int) = (q.1.length : Int) := by have := HQ.out; rw [IntKind.wrap_u64]; omega
    have x2 := HLT.out
    generalize q.1.length = m at *
    clear hr he KN
    go_wp2_with fail
    go_ret
    exact FIN.out
  · rw [if_neg hlt]
    have HLT := Lib.hid hlt
    clear hlt
    go_enter Tryz.func31, Tryz.ntmps31
    go_wp2_with fail
    refine KN.mono ?_
    rintro e w1 ⟨rfl, hr, he⟩
    obtain ⟨a, n, c, c0, c1, rfl, f0, f1⟩ := bool_cell hr
    have FIN : Hid (RdP p w (.int .i64 (u : Int)) q (.returned (.int .i64 (u : Int))) w1) := Lib.hid ⟨rfl, hr, he⟩
    have x1 : IntKind.u64.wrap (q.1.length : Int) = (q.1.length : Int) := by have := HQ.out; rw [IntKind.wrap_u64]; omega
    have x2 := HLT.out
    have x3 : IntKind.i64.wrap (u : Int) = (u : Int) := by have := HQ.out; rw [IntKind.wrap_i64]; omega
    have x4 : wrap64 (u : Int) = (u : Int) := by have := HQ.out; unfold wrap64; omega
    generalize q.1.length = m at *
    clear hr he KN
    go_wp2_with fail
    go_ret
    exact FIN.out
set_option maxHeartbeats 1600000 in
theorem rtxt_at {w : World} {p : Nat} {s : RS} (h : RdAt w p s) (hl : s.1.length ≤ 1000000) :
    Calls Tryz.prog 30 #[.pointer (some ⟨p, 0, none⟩)] w (RdP p w (.string (txtF s).1) (txtF s).2) := by
  have KN := rcnt_at h hl
  have hle := cntF_le s
  unfold txtF
  obtain ⟨⟨m, q⟩, hq⟩ : ∃ v, cntF s = v := ⟨_, rfl⟩
  rw [hq] at KN hle ⊢
  simp only at KN hle ⊢
  obtain ⟨r, f⟩ := q
  simp only at KN hle ⊢
  have HM := Lib.hid hle
  generalize hz : r.length = z at *
  have HZ := Lib.hid hz
  clear hq hle h hl hz
  go_enter Tryz.func30, Tryz.ntmps30
  go_wp2_with fail
  refine KN.mono ?_
  rintro e w1 ⟨rfl, hs, he⟩
  obtain ⟨a, k, c, h1, h2, h3⟩ := hs
  simp only at h1 h2
  have hk := h2.len
  rw [u8s_len, HZ.out] at hk
  obtain ⟨rfl, hzc⟩ := hk
  have c0 : w1.cell? ⟨p, 0, none⟩ = some (.slice a z c) := by rw [cell_of_row _ _ _ _ _ _ h1]; rfl
  have f0 := free_of_row h1 0
  have hT := toStr (hold_take h2 m HM.out)
  have b0 : (0 : Int) ≤ (m : Int) := Int.natCast_nonneg _
  have b1 : (m : Int) ≤ (z : Int) := Int.ofNat_le.2 HM.out
  have b2 : (z : Int) ≤ (c : Int) := Int.ofNat_le.2 hzc
  rcases a with _ | ad
  · obtain ⟨rfl, rfl⟩ : z = 0 ∧ c = 0 := by
      obtain ⟨a', c', e, _, h4⟩ := h2
      simp only [Value.slice.injEq] at e
      obtain ⟨rfl, e2, rfl⟩ := e
      rcases h4 with ⟨_, e3, e4⟩ | ⟨_, e3, _⟩
      · rw [e3] at e2; exact ⟨e2, e4⟩
      · cases e3
    obtain rfl : m = 0 := by have := HM.out; omega
    have hr0 : r = [] := List.eq_nil_of_length_eq_zero HZ.out
    subst hr0
    have FIN : Hid (RdP p w (.string ⟨([].take 0).toArray⟩) (List.drop 0 [], f) (.returned (.string ⟨([].take 0).toArray⟩)) (w1.setCell ⟨p, 0, none⟩ (.slice none 0 0))) :=
      Lib.hid ⟨rfl, RdAt.slice (s := ([], f)) h1 (Holds.nil _) (fun ad e => by cases e), he.trans (else_set (.slice none 0 0)) (fun x hx => .inl hx)⟩
    clear h1 h2 h3 he KN
    go_wp2_with fail
    go_ret
    exact FIN.out
  · obtain ⟨A, if1, if2, hH⟩ := cut_ahead h2 HM.out
    have hA := cut_block if1
    have hp : ∀ x, some A = some x → 0 < z - m → x.block < p := fun x ex hx => by cases ex; rw [hA]; exact h3 ad rfl (by omega)
    have FIN : Hid (RdP p w (.string ⟨(r.take m).toArray⟩) (r.drop m, f) (.returned (.string ⟨(r.take m).toArray⟩)) (w1.setCell ⟨p, 0, none⟩ (.slice (some A) (z - m) (c - m)))) :=
      Lib.hid ⟨rfl, RdAt.slice (s := (r, f)) h1 hH hp, he.trans (else_set (.slice (some A) (z - m) (c - m))) (fun x hx => .inl hx)⟩
    clear h1 h2 h3 he hH hp hA KN
    go_wp2_with fail
    go_ret
    exact FIN.out
end Go.Proofs.YtehfoaicohnpfaaGreatDoor
/- The document's reader of records, plain: with a flag that it has gone wrong; it reads what qRead reads. Conditions: at most 1000000 bytes. -/
set_option maxRecDepth 100000
namespace Go.Proofs.YtehfoaicohnpfaaGreatDoor
open Go.RowKit Go.Maps Go.Sort Go.Lib

theorem num_some {l : List UInt8} {z : Int} {r : List UInt8} (h : pNum l = some (z, r)) : numF (l, false) = ((getN l).1, (r, false)) ∧ z = iN (getN l).1 := by
  unfold pNum at h
  split at h
  · cases h
  · rename_i hm
    simp only [Option.some.injEq, Prod.mk.injEq] at h
    obtain ⟨rfl, rfl⟩ := h
    unfold numF
    rw [if_neg hm]
    exact ⟨rfl, rfl⟩
theorem num_none {l : List UInt8} (h : pNum l = none) (f : Bool) : numF (l, f) = (0, ([], true)) := by
  unfold pNum at h
  split at h
  · rename_i hm
    unfold numF
    rw [if_pos hm]
  · cases h
theorem iN_cases (u : Nat) (hu : u < 18446744073709551616) : (u < 9223372036854775808 ∧ iN u = (u : Int)) ∨ (9223372036854775808 ≤ u ∧ iN u < 0) := by
  unfold iN
  rw [IntKind.wrap_i64]
  omega
theorem cnt_some {l : List UInt8} {n : Nat} {r : List UInt8} (h : qCnt l = some (n, r)) : cntF (l, false) = (n, (r, false)) := by
  unfold qCnt at h
  cases e : pNum l with
  | none => rw [e] at h; cases h
  | some q =>
    obtain ⟨z, q⟩ := q
    rw [e] at h
    obtain ⟨e1, e2⟩ := num_some e
    have hu := (getN_bound l).2
    simp only [Option.bind_some] at h
    split at h
    · cases h
    · simp only [Option.some.injEq, Prod.mk.injEq] at h
      obtain ⟨rfl, rfl⟩ := h
      rename_i hz
      unfold cntF
      rw [e1]
      simp only
      rcases iN_cases _ hu with ⟨g1, g2⟩ | ⟨g1, g2⟩
      · rw [if_neg (by omega)]
        have : z.toNat = (getN l).1 := by omega
        rw [this]
      · omega
theorem cnt_none {l : List UInt8} (hl : l.length ≤ 1000000) (h : qCnt l = none) : (cntF (l, false)).2.2 = true := by
  unfold qCnt at h
  cases e : pNum l with
  | none =>
    have := num_none e false
    unfold cntF
    rw [this]
    rfl
  | some q =>
    obtain ⟨z, q⟩ := q
    rw [e] at h
    obtain ⟨e1, e2⟩ := num_some e
    have hu := (getN_bound l).2
    have hq := numF_len (l, false)
    rw [e1] at hq
    simp only [Option.bind_some] at h hq
    split at h
    · rename_i hz
      unfold cntF
      rw [e1]
      simp only
      rcases iN_cases _ hu with ⟨g1, g2⟩ | ⟨g1, g2⟩
      · rw [if_pos (by omega)]
      · rw [if_pos (by omega)]
    · cases h
theorem txt_some {l : List UInt8} {s : ByteArray} {r : List UInt8} (h : pTxt l = some (s, r)) : txtF (l, false) = (s, (r, false)) := by
  unfold pTxt at h
  cases e : pNum l with
  | none => rw [e] at h; cases h
  | some q =>
    obtain ⟨z, q⟩ := q
    rw [e] at h
    simp only [Option.bind_some] at h
    split at h
    · cases h
    · rename_i hz
      simp only [Option.some.injEq, Prod.mk.injEq] at h
      obtain ⟨rfl, rfl⟩ := h
      have hc : qCnt l = some (z.toNat, q) := by
        unfold qCnt
        rw [e]
        simp only [Option.bind_some]
        rw [if_neg hz]
      unfold txtF
      rw [cnt_some hc]
theorem txt_none {l : List UInt8} (hl : l.length ≤ 1000000) (h : pTxt l = none) : (txtF (l, false)).2.2 = true := by
  have hc : qCnt l = none := by
    unfold pTxt at h
    unfold qCnt
    cases e : pNum l with
    | none => rfl
    | some q =>
      rw [e] at h
      simp only [Option.bind_some] at h ⊢
      split at h
      · rename_i hz
        rw [if_pos hz]
      · cases h
  exact cnt_none hl hc
/-- a step of the reader, and the parser that it follows -/
structure Tie {α : Type} (step : RS → α × RS) (p : Ps α) : Prop where
  len : ∀ s, (step s).2.1.length ≤ s.1.length
  yes : ∀ l x r, l.length ≤ 1000000 → p l = some (x, r) → step (l, false) = (x, (r, false))
  no : ∀ l, l.length ≤ 1000000 → p l = none → (step (l, false)).2.2 = true
def stepC (s : RS) : (ByteArray × Int) × RS := (((txtF s).1, iN (numF (txtF s).2).1), (numF (txtF s).2).2)
def stepM (s : RS) : (Int × ByteArray) × RS := ((iN (numF s).1, (txtF (numF s).2).1), (txtF (numF s).2).2)
def stepR (s : RS) : List VV × RS := match loadV (txtF s).1.data.toList with
  | some r => (r, (txtF s).2)
  | none => ([], ((txtF s).2.1, true))
theorem tie_txt : Tie txtF pTxt := ⟨txtF_len, fun _ _ _ _ h => txt_some h, fun _ hl h => txt_none hl h⟩
theorem tie_col : Tie stepC pCol where
  len := fun s => Nat.le_trans (numF_len _) (txtF_len s)
  yes := fun l x r hl h => by
    unfold pCol at h
    obtain ⟨⟨a, q⟩, h1, h2⟩ := bind_some' h
    obtain ⟨⟨z, q2⟩, h3, h4⟩ := bind_some' h2
    simp only [Option.some.injEq, Prod.mk.injEq] at h4
    obtain ⟨rfl, rfl⟩ := h4
    unfold stepC
    rw [txt_some h1]
    obtain ⟨e1, e2⟩ := num_some h3
    simp only at e1
    rw [e1, e2]
  no := fun l hl h => by
    unfold pCol at h
    unfold stepC
    cases e : pTxt l with
    | none => exact numF_t _ (txt_none hl e)
    | some q =>
      rw [e] at h
      simp only [Option.bind_some] at h
      rw [txt_some e]
      cases e2 : pNum q.2 with
      | none => simp only; rw [num_none e2]
      | some q2 => rw [e2] at h; cases h
theorem tie_mea : Tie stepM pMea where
  len := fun s => Nat.le_trans (txtF_len _) (numF_len s)
  yes := fun l x r hl h => by
    unfold pMea at h
    obtain ⟨⟨z, q⟩, h1, h2⟩ := bind_some' h
    obtain ⟨⟨a, q2⟩, h3, h4⟩ := bind_some' h2
    simp only [Option.some.injEq, Prod.mk.injEq] at h4
    obtain ⟨rfl, rfl⟩ := h4
    unfold stepM
    obtain ⟨e1, e2⟩ := num_some h1
    rw [e1, e2]
    simp only at h3 ⊢
    rw [txt_some h3]
  no := fun l hl h => by
    unfold pMea at h
    unfold stepM
    cases e : pNum l with
    | none =>
      rw [num_none e]
      exact txtF_t _ rfl
    | some q =>
      obtain ⟨z, q⟩ := q
      rw [e] at h
      simp only [Option.bind_some] at h
      obtain ⟨e1, e2⟩ := num_some e
      have hq := numF_len (l, false)
      rw [e1] at hq ⊢
      simp only at hq ⊢
      cases e2 : pTxt q with
      | none => exact txt_none (by omega) e2
      | some q2 => rw [e2] at h; cases h
theorem tie_row : Tie stepR pRow where
  len := fun s => by
    have := txtF_len s
    unfold stepR
    split
    · exact this
    · exact this
  yes := fun l x r hl h => by
    unfold pRow at h
    obtain ⟨⟨a, q⟩, h1, h2⟩ := bind_some' h
    obtain ⟨v, h3, h4⟩ := bind_some' h2
    simp only [Option.some.injEq, Prod.mk.injEq] at h4
    obtain ⟨rfl, rfl⟩ := h4
    unfold stepR
    rw [txt_some h1]
    simp only at h3 ⊢
    rw [h3]
  no := fun l hl h => by
    unfold pRow at h
    unfold stepR
    cases e : pTxt l with
    | none =>
      have := txt_none hl e
      split
      · exact this
      · rfl
    | some q =>
      rw [e] at h
      simp only [Option.bind_some] at h
      rw [txt_some e]
      simp only
      cases e2 : loadV q.1.data.toList with
      | none => rfl
      | some v => rw [e2] at h; cases h
/-- so many items, until it has gone wrong -/
def loopF {α : Type} (step : RS → α × RS) : Nat → RS → List α × RS
  | 0, s => ([], s)
  | k + 1, s => if s.2 = true then ([], s) else ((step s).1 :: (loopF step k (step s).2).1, (loopF step k (step s).2).2)
theorem loopF_t {α : Type} (step : RS → α × RS) (k : Nat) (s : RS) (h : s.2 = true) : loopF step k s = ([], s) := by
  cases k with
  | zero => rfl
  | succ k => unfold loopF; rw [if_pos h]
theorem loopF_len {α : Type} {step : RS → α × RS} (hs : ∀ s, (step s).2.1.length ≤ s.1.length) : ∀ (k : Nat) (s : RS), (loopF step k s).2.1.length ≤ s.1.length
  | 0, s => Nat.le_refl _
  | k + 1, s => by
    unfold loopF
    split
    · exact Nat.le_refl _
    · exact Nat.le_trans (loopF_len hs k _) (hs s)
theorem many_tie {α : Type} {step : RS → α × RS} {p : Ps α} (h : Tie step p) : ∀ (k : Nat) (l : List UInt8), l.length ≤ 1000000 →
    (∀ xs r, pMany p k l = some (xs, r) → loopF step k (l, false) = (xs, (r, false))) ∧ (pMany p k l = none → (loopF step k (l, false)).2.2 = true)
  | 0, l, _ => ⟨fun xs r e => by simp only [pMany, Option.some.injEq, Prod.mk.injEq] at e; obtain ⟨rfl, rfl⟩ := e; rfl, fun e => by simp [pMany] at e⟩
  | k + 1, l, hl => by
    have hlen := h.len (l, false)
    cases e : p l with
    | none =>
      have hw := h.no l hl e
      refine ⟨fun xs r g => (by unfold pMany at g; rw [e] at g; cases g), fun _ => ?_⟩
      unfold loopF
      rw [if_neg (by simp), loopF_t _ _ _ hw]
      exact hw
    | some q =>
      obtain ⟨x, q⟩ := q
      have hy := h.yes l x q hl e
      rw [hy] at hlen
      obtain ⟨i1, i2⟩ := many_tie h k q (by simp only at hlen; omega)
      refine ⟨fun xs r g => ?_, fun g => ?_⟩
      · unfold pMany at g
        rw [e] at g
        simp only [Option.bind_some] at g
        obtain ⟨⟨ys, q2⟩, g1, g2⟩ := bind_some' g
        simp only [Option.some.injEq, Prod.mk.injEq] at g2
        obtain ⟨rfl, rfl⟩ := g2
        unfold loopF
        rw [if_neg (by simp), hy, i1 _ _ g1]
      · unfold pMany at g
        rw [e] at g
        simp only [Option.bind_some] at g
        unfold loopF
        rw [if_neg (by simp), hy]
        refine i2 ?_
        cases e3 : pMany p k q with
        | none => rfl
        | some v => rw [e3] at g; cases g
end Go.Proofs.YtehfoaicohnpfaaGreatDoor
/- What the document's Load reads, plain: it is what the program's Load reads. Conditions: at most 1000000 bytes. -/
set_option maxRecDepth 100000
namespace Go.Proofs.YtehfoaicohnpfaaGreatDoor
open Go.RowKit Go.Maps Go.Sort Go.Lib

def tabF (s : RS) : RV × RS := let n := txtF s; let c := cntF n.2; let k := loopF stepC c.1 c.2; (tabV (n.1, k.1), k.2)
def rolF (s : RS) : RV × RS := let n := txtF s; let t := txtF n.2; let c := cntF t.2; let d := loopF txtF c.1 c.2; let c2 := cntF d.2; let m := loopF stepM c2.1 c2.2; (rolV (n.1, t.1, d.1, m.1), m.2)
def batF (s : RS) : RV × RS := let n := txtF s; let c := cntF n.2; let k := loopF stepR c.1 c.2; (batV n.1 k.1, k.2)
def bodF (k : Nat) (s : RS) : RV × RS := if k = 1 then tabF s else if k = 2 then rolF s else batF s
/-- may what was read be taken? -/
def okF (b : List UInt8) (q : RV × RS) : Bool := !q.2.2 && (q.2.1.isEmpty && (goodR q.1 && decide (b.length ≤ 262144)))
def loadF (b : List UInt8) : Option RV := if (numF (b, false)).1 < 1 ∨ 3 < (numF (b, false)).1 then none else
  if okF b (bodF (numF (b, false)).1 (numF (b, false)).2) = true then some (bodF (numF (b, false)).1 (numF (b, false)).2).1 else none
theorem loop_t {α : Type} {step : RS → α × RS} {k : Nat} {s : RS} (h : s.2 = true) : (loopF step k s).2.2 = true := by rw [loopF_t _ _ _ h]; exact h
theorem loopF_keep {α : Type} {step : RS → α × RS} (hs : ∀ s, (step s).2.1.length ≤ s.1.length) {k : Nat} {l : List UInt8} {f : Bool} : (loopF step k (l, f)).2.1.length ≤ l.length := loopF_len hs k (l, f)
theorem tab_yes {l : List UInt8} (hl : l.length ≤ 1000000) {x : ByteArray × List (ByteArray × Int)} {r : List UInt8} (h : qTab l = some (x, r)) : tabF (l, false) = (tabV x, (r, false)) := by
  unfold qTab at h
  obtain ⟨⟨a, q⟩, h1, h2⟩ := bind_some' h
  obtain ⟨⟨n, q2⟩, h3, h4⟩ := bind_some' h2
  obtain ⟨⟨m, q3⟩, h5, h6⟩ := bind_some' h4
  simp only [Option.some.injEq, Prod.mk.injEq] at h6
  obtain ⟨rfl, rfl⟩ := h6
  have l1 := txtF_len (l, false)
  rw [txt_some h1] at l1
  have l2 := cntF_len (q, false)
  simp only at h3 h5 l1
  rw [cnt_some h3] at l2
  simp only at l2
  unfold tabF
  simp only [txt_some h1, cnt_some h3, (many_tie tie_col n q2 (by omega)).1 _ _ h5]
theorem tab_no {l : List UInt8} (hl : l.length ≤ 1000000) (h : qTab l = none) : (tabF (l, false)).2.2 = true := by
  unfold qTab at h
  unfold tabF
  simp only
  cases e : pTxt l with
  | none => exact loop_t (cntF_t _ (txt_none hl e))
  | some q =>
    obtain ⟨a, q⟩ := q
    rw [e] at h
    have l1 := txtF_len (l, false)
    rw [txt_some e] at l1 ⊢
    simp only [Option.bind_some] at h l1 ⊢
    cases e2 : qCnt q with
    | none => exact loop_t (cnt_none (by omega) e2)
    | some q2 =>
      obtain ⟨n, q2⟩ := q2
      rw [e2] at h
      have l2 := cntF_len (q, false)
      rw [cnt_some e2] at l2 ⊢
      simp only [Option.bind_some] at h l2 ⊢
      refine (many_tie tie_col n q2 (by omega)).2 ?_
      cases e3 : pMany pCol n q2 with
      | none => rfl
      | some v => rw [e3] at h; cases h
theorem bat_yes {l : List UInt8} (hl : l.length ≤ 1000000) {x : ByteArray × List (List VV)} {r : List UInt8} (h : qBat l = some (x, r)) : batF (l, false) = (batV x.1 x.2, (r, false)) := by
  unfold qBat at h
  obtain ⟨⟨a, q⟩, h1, h2⟩ := bind_some' h
  obtain ⟨⟨n, q2⟩, h3, h4⟩ := bind_some' h2
  obtain ⟨⟨m, q3⟩, h5, h6⟩ := bind_some' h4
  simp only [Option.some.injEq, Prod.mk.injEq] at h6
  obtain ⟨rfl, rfl⟩ := h6
  have l1 := txtF_len (l, false)
  rw [txt_some h1] at l1
  have l2 := cntF_len (q, false)
  simp only at h3 h5 l1
  rw [cnt_some h3] at l2
  simp only at l2
  unfold batF
  simp only [txt_some h1, cnt_some h3, (many_tie tie_row n q2 (by omega)).1 _ _ h5]
theorem bat_no {l : List UInt8} (hl : l.length ≤ 1000000) (h : qBat l = none) : (batF (l, false)).2.2 = true := by
  unfold qBat at h
  unfold batF
  simp only
  cases e : pTxt l with
  | none => exact loop_t (cntF_t _ (txt_none hl e))
  | some q =>
    obtain ⟨a, q⟩ := q
    rw [e] at h
    have l1 := txtF_len (l, false)
    rw [txt_some e] at l1 ⊢
    simp only [Option.bind_some] at h l1 ⊢
    cases e2 : qCnt q with
    | none => exact loop_t (cnt_none (by omega) e2)
    | some q2 =>
      obtain ⟨n, q2⟩ := q2
      rw [e2] at h
      have l2 := cntF_len (q, false)
      rw [cnt_some e2] at l2 ⊢
      simp only [Option.bind_some] at h l2 ⊢
      refine (many_tie tie_row n q2 (by omega)).2 ?_
      cases e3 : pMany pRow n q2 with
      | none => rfl
      | some v => rw [e3] at h; cases h
theorem rol_yes {l : List UInt8} (hl : l.length ≤ 1000000) {x : ByteArray × ByteArray × List ByteArray × List (Int × ByteArray)} {r : List UInt8} (h : qRol l = some (x, r)) : rolF (l, false) = (rolV x, (r, false)) := by
  unfold qRol at h
  obtain ⟨⟨a, q⟩, h1, h2⟩ := bind_some' h
  obtain ⟨⟨b, p⟩, h3, h4⟩ := bind_some' h2
  obtain ⟨⟨n, q2⟩, h5, h6⟩ := bind_some' h4
  obtain ⟨⟨d, q3⟩, h7, h8⟩ := bind_some' h6
  obtain ⟨⟨n2, q4⟩, h9, h10⟩ := bind_some' h8
  obtain ⟨⟨m, q5⟩, h11, h12⟩ := bind_some' h10
  simp only [Option.some.injEq, Prod.mk.injEq] at h12
  obtain ⟨rfl, rfl⟩ := h12
  simp only at h3 h5 h7 h9 h11
  have l1 := txtF_len (l, false)
  rw [txt_some h1] at l1
  have l2 := txtF_len (q, false)
  rw [txt_some h3] at l2
  have l3 := cntF_len (p, false)
  rw [cnt_some h5] at l3
  simp only at l1 l2 l3
  have hd := (many_tie tie_txt n q2 (by omega)).1 _ _ h7
  have l4 := loopF_keep (step := txtF) txtF_len (k := n) (l := q2) (f := false)
  rw [hd] at l4
  have l5 := cntF_len (q3, false)
  rw [cnt_some h9] at l5
  simp only at l4 l5
  unfold rolF
  simp only [txt_some h1, txt_some h3, cnt_some h5, hd, cnt_some h9, (many_tie tie_mea n2 q4 (by omega)).1 _ _ h11]
theorem rol_no {l : List UInt8} (hl : l.length ≤ 1000000) (h : qRol l = none) : (rolF (l, false)).2.2 = true := by
  unfold qRol at h
  unfold rolF
  simp only
  cases e : pTxt l with
  | none => exact loop_t (cntF_t _ (loop_t (cntF_t _ (txtF_t _ (txt_none hl e)))))
  | some q =>
    obtain ⟨a, q⟩ := q
    rw [e] at h
    have l1 := txtF_len (l, false)
    rw [txt_some e] at l1 ⊢
    simp only [Option.bind_some] at h l1 ⊢
    cases e2 : pTxt q with
    | none => exact loop_t (cntF_t _ (loop_t (cntF_t _ (txt_none (by omega) e2))))
    | some q2 =>
      obtain ⟨b, p⟩ := q2
      rw [e2] at h
      have l2 := txtF_len (q, false)
      rw [txt_some e2] at l2 ⊢
      simp only [Option.bind_some] at h l2 ⊢
      cases e3 : qCnt p with
      | none => exact loop_t (cntF_t _ (loop_t (cnt_none (by omega) e3)))
      | some q3 =>
        obtain ⟨n, q3⟩ := q3
        rw [e3] at h
        have l3 := cntF_len (p, false)
        rw [cnt_some e3] at l3 ⊢
        simp only [Option.bind_some] at h l3 ⊢
        have l4 := loopF_keep (step := txtF) txtF_len (k := n) (l := q3) (f := false)
        obtain ⟨m1, m2⟩ := many_tie tie_txt n q3 (by omega)
        cases e4 : pMany pTxt n q3 with
        | none => exact loop_t (cntF_t _ (m2 e4))
        | some q4 =>
          obtain ⟨d, q4⟩ := q4
          rw [e4] at h
          rw [m1 _ _ e4] at l4 ⊢
          simp only [Option.bind_some] at h l4 ⊢
          cases e5 : qCnt q4 with
          | none => exact loop_t (cnt_none (by omega) e5)
          | some q5 =>
            obtain ⟨n2, q5⟩ := q5
            rw [e5] at h
            have l5 := cntF_len (q4, false)
            rw [cnt_some e5] at l5 ⊢
            simp only [Option.bind_some] at h l5 ⊢
            refine (many_tie tie_mea n2 q5 (by omega)).2 ?_
            cases e6 : pMany pMea n2 q5 with
            | none => rfl
            | some v => rw [e6] at h; cases h
theorem ok_wrong {b : List UInt8} {q : RV × RS} (h : q.2.2 = true) : okF b q = false := by unfold okF; rw [h]; rfl
theorem ok_right {b r : List UInt8} {x : RV} : okF b (x, (r, false)) = decide (r = [] ∧ goodR x = true ∧ b.length ≤ 262144) := by
  unfold okF
  simp only
  rw [Bool.eq_iff_iff]
  simp
/-- the document's Load reads what the program's reads -/
theorem loadF_eq {b : List UInt8} (hl : b.length ≤ 1000000) : loadF b = qLoad b := by
  unfold loadF qLoad qRead
  cases e : pNum b with
  | none =>
    rw [num_none e, if_pos (.inl (by simp))]
    rfl
  | some q =>
    obtain ⟨z, q⟩ := q
    obtain ⟨e1, e2⟩ := num_some e
    have hu := (getN_bound b).2
    have hq := numF_len (b, false)
    rw [e1] at hq ⊢
    simp only [Option.bind_some] at hq ⊢
    have hql : q.length ≤ 1000000 := by omega
    have hc := iN_cases _ hu
    rw [← e2] at hc
    generalize (getN b).1 = u at *
    by_cases hk : u < 1 ∨ 3 < u
    · rw [if_pos hk, if_neg (show ¬ z = 1 by omega), if_neg (show ¬ z = 2 by omega), if_neg (show ¬ z = 3 by omega)]
      rfl
    · rw [if_neg hk]
      have hz : z = (u : Int) := by omega
      unfold bodF
      by_cases h1 : u = 1
      · rw [if_pos h1, if_pos (show z = 1 by omega)]
        cases e3 : qTab q with
        | none =>
          rw [ok_wrong (tab_no hql e3)]
          rfl
        | some s =>
          obtain ⟨x, r⟩ := s
          rw [tab_yes hql e3, ok_right]
          simp only [Option.bind_some, decide_eq_true_eq]
      · rw [if_neg h1, if_neg (show ¬ z = 1 by omega)]
        by_cases h2 : u = 2
        · rw [if_pos h2, if_pos (show z = 2 by omega)]
          cases e3 : qRol q with
          | none =>
            rw [ok_wrong (rol_no hql e3)]
            rfl
          | some s =>
            obtain ⟨x, r⟩ := s
            rw [rol_yes hql e3, ok_right]
            simp only [Option.bind_some, decide_eq_true_eq]
        · rw [if_neg h2, if_neg (show ¬ z = 2 by omega), if_pos (show z = 3 by omega)]
          cases e3 : qBat q with
          | none =>
            rw [ok_wrong (bat_no hql e3)]
            rfl
          | some s =>
            obtain ⟨x, r⟩ := s
            rw [bat_yes hql e3, ok_right]
            simp only [Option.bind_some, decide_eq_true_eq]
end Go.Proofs.YtehfoaicohnpfaaGreatDoor
/- What the document's Load has in memory: its reader, the record that grows, the result. Conditions: at most 1000000 bytes. -/
set_option maxRecDepth 100000
namespace Go.Proofs.YtehfoaicohnpfaaGreatDoor
open Go.RowKit Go.Maps Go.Sort Go.Lib

theorem RecOk.keep {B : Nat} {x : RV} {a b c d : Value} {w w' : World} (h : RecOk B x a b c d w) (hk : ∀ (k : Nat) (cs : Array Value) (t : TypeId), w.heap[k]? = some (.cells cs t (0, 0)) → (t = 48 ∨ t = 9 ∨ t = 78 ∨ t = 79 ∨ t = 99) → w'.heap[k]? = w.heap[k]?) : RecOk B x a b c d w' := by
  have typ : ∀ {e : TypeId} {k : Nat} {v : Value} {n : Nat} {xs : List Value}, w.ownsRow B e k v n xs → ∀ g, v.ownBlock = some g → ∃ cur, w.heap[g]? = some (.cells cur e (0, 0)) := fun h g hg => by
    rcases h.2 with ⟨e1, _⟩ | ⟨g', cap, cur, e1, _, hh, _⟩
    · rw [e1] at hg; simp [Value.ownBlock] at hg
    · rw [e1] at hg
      have : g' = g := by simpa [Value.ownBlock] using hg
      subst this
      exact ⟨cur, hh⟩
  have hr : ∀ {e : TypeId} {k : Nat} {v : Value} {n : Nat} {xs : List Value}, (e = 48 ∨ e = 9 ∨ e = 78 ∨ e = 79 ∨ e = 99) → w.ownsRow B e k v n xs → w'.ownsRow B e k v n xs := fun he ho => ownsRow_of_block ho fun g hg => by
    obtain ⟨cur, hc⟩ := typ ho g hg
    exact hk g cur _ hc he
  obtain ⟨vs, hv, hl, hw⟩ := h.ws
  exact ⟨hr (.inl rfl) h.tc, hr (.inr (.inl rfl)) h.rd, hr (.inr (.inr (.inl rfl))) h.rm, vs, hr (.inr (.inr (.inr (.inl rfl)))) hv, hl, fun i u r hu hrr => hr (.inr (.inr (.inr (.inr rfl)))) (hw i u r hu hrr)⟩
theorem typ_of {w : World} {B : Nat} {e : TypeId} {k : Nat} {v : Value} {n : Nat} {xs : List Value} (h : w.ownsRow B e k v n xs) : ∀ g, v.ownBlock = some g → ∃ cur, w.heap[g]? = some (.cells cur e (0, 0)) := fun g hg => by
  rcases h.2 with ⟨e1, _⟩ | ⟨g', cap, cur, e1, _, hh, _⟩
  · rw [e1] at hg; simp [Value.ownBlock] at hg
  · rw [e1] at hg
    have : g' = g := by simpa [Value.ownBlock] using hg
    subst this
    exact ⟨cur, hh⟩
theorem info_strR : (Tryz.prog.info? 9).map (fun i => (i.zero, i.size, i.bytes)) = some (some (.string ⟨#[]⟩), 1, 16) := by kernel_rfl
/-- Load under way -/
structure LdQ (w : World) (s : RS) (x : RV) (a b c d : Value) (W : World) : Prop where
  bel : Below w.heap.size w W
  rd : RdAt W (w.heap.size + 1) s
  res : W.heap[w.heap.size]? = some (.cells #[.int .i64 0, .string ⟨#[]⟩, .slice none 0 0, .string ⟨#[]⟩, .string ⟨#[]⟩, .slice none 0 0, .slice none 0 0, .string ⟨#[]⟩, .slice none 0 0] 44 (0, 0))
  box : W.heap[w.heap.size + 2]? = some (.cells #[.int .i64 x.k, .string x.tn, a, .string x.rn, .string x.rt, b, c, .string x.nm, d] 44 (0, 0))
  ok : RecOk w.heap.size x a b c d W
section
variable {w W V : World} {s s' : RS} {x : RV} {a b c d : Value}
theorem LdQ.next (h : LdQ w s x a b c d W) (hb : Below W.heap.size W V) : LdQ w s x a b c d V :=
  ⟨h.bel.trans (hb.mono h.bel.size), h.rd.next hb, (hb.block _ (lt_of_heap h.res)).trans h.res, (hb.block _ (lt_of_heap h.box)).trans h.box, h.ok.keep fun k _ _ hk _ => hb.block k (lt_of_heap hk)⟩
theorem LdQ.drewN (h : LdQ w s x a b c d W) (n : Nat) : LdQ w s x a b c d (W.drewN n) := h.next (below_drewN W n)
theorem LdQ.read (h : LdQ w s x a b c d W) (hr : RdAt V (w.heap.size + 1) s') (he : Else (fun k => k = w.heap.size + 1) W V) : LdQ w s' x a b c d V := by
  obtain ⟨ra, rn, rc, hrd, _⟩ := h.rd
  exact ⟨h.bel.trans (he.below h.bel.size (fun y hy => by subst hy; omega)), hr, (he.block _ (lt_of_heap h.res) (by omega)).trans h.res, (he.block _ (lt_of_heap h.box) (by omega)).trans h.box, h.ok.keep fun k _ _ hk ht => he.block k (lt_of_heap hk) (fun e => by
    subst e
    rw [hrd] at hk
    simp at hk
    rcases ht with e | e | e | e | e <;> (rw [e] at hk; exact absurd hk.2 (by decide)))⟩
theorem LdQ.box_store (h : LdQ w s x a b c d W) (j : Nat) (v : Value) {x' : RV} {a' b' c' d' : Value} (hx : (W.setCell ⟨w.heap.size + 2, j, none⟩ v).heap[w.heap.size + 2]? = some (.cells #[.int .i64 x'.k, .string x'.tn, a', .string x'.rn, .string x'.rt, b', c', .string x'.nm, d'] 44 (0, 0))) (hk : RecOk w.heap.size x' a' b' c' d' W) :
    LdQ w s x' a' b' c' d' (W.setCell ⟨w.heap.size + 2, j, none⟩ v) := by
  have ho : ∀ k, k ≠ w.heap.size + 2 → (W.setCell ⟨w.heap.size + 2, j, none⟩ v).heap[k]? = W.heap[k]? := fun k hk => Below.heap_setCell _ _ _ k hk
  refine ⟨h.bel.setCell (p := ⟨w.heap.size + 2, j, none⟩) (by show w.heap.size ≤ w.heap.size + 2; omega) v, h.rd.frame fun k hk => ho k (by omega), (ho _ (by omega)).trans h.res, hx, hk.keep fun k _ _ hkk ht => ho k (fun e => ?_)⟩
  subst e
  rw [h.box] at hkk
  simp at hkk
  rcases ht with e | e | e | e | e <;> (rw [e] at hkk; exact absurd hkk.2 (by decide))
theorem LdQ.cells (h : LdQ w s x a b c d W) : W.cell? ⟨w.heap.size + 2, 0, none⟩ = some (.int .i64 x.k) ∧ W.cell? ⟨w.heap.size + 2, 1, none⟩ = some (.string x.tn) ∧ W.cell? ⟨w.heap.size + 2, 2, none⟩ = some a ∧ W.cell? ⟨w.heap.size + 2, 3, none⟩ = some (.string x.rn) ∧ W.cell? ⟨w.heap.size + 2, 4, none⟩ = some (.string x.rt) ∧ W.cell? ⟨w.heap.size + 2, 5, none⟩ = some b ∧ W.cell? ⟨w.heap.size + 2, 6, none⟩ = some c ∧ W.cell? ⟨w.heap.size + 2, 7, none⟩ = some (.string x.nm) ∧ W.cell? ⟨w.heap.size + 2, 8, none⟩ = some d := by
  obtain ⟨a0, a1, a2, a3, a4, a5, a6, a7, a8, _⟩ := nine_cells h.box
  exact ⟨a0, a1, a2, a3, a4, a5, a6, a7, a8⟩
theorem LdQ.free (h : LdQ w s x a b c d W) (j : Nat) : W.frozen? ⟨w.heap.size + 2, j, none⟩ = false := free_of_row h.box j
theorem LdQ.setK (h : LdQ w s x a b c d W) (y : Int) : LdQ w s { x with k := y } a b c d (W.setCell ⟨w.heap.size + 2, 0, none⟩ (.int .i64 y)) := h.box_store 0 _ (heap_set h.box _) ⟨h.ok.tc, h.ok.rd, h.ok.rm, h.ok.ws⟩
theorem LdQ.setTn (h : LdQ w s x a b c d W) (y : ByteArray) : LdQ w s { x with tn := y } a b c d (W.setCell ⟨w.heap.size + 2, 1, none⟩ (.string y)) := h.box_store 1 _ (heap_set h.box _) ⟨h.ok.tc, h.ok.rd, h.ok.rm, h.ok.ws⟩
theorem LdQ.setRn (h : LdQ w s x a b c d W) (y : ByteArray) : LdQ w s { x with rn := y } a b c d (W.setCell ⟨w.heap.size + 2, 3, none⟩ (.string y)) := h.box_store 3 _ (heap_set h.box _) ⟨h.ok.tc, h.ok.rd, h.ok.rm, h.ok.ws⟩
theorem LdQ.setRt (h : LdQ w s x a b c d W) (y : ByteArray) : LdQ w s { x with rt := y } a b c d (W.setCell ⟨w.heap.size + 2, 4, none⟩ (.string y)) := h.box_store 4 _ (heap_set h.box _) ⟨h.ok.tc, h.ok.rd, h.ok.rm, h.ok.ws⟩
theorem LdQ.setNm (h : LdQ w s x a b c d W) (y : ByteArray) : LdQ w s { x with nm := y } a b c d (W.setCell ⟨w.heap.size + 2, 7, none⟩ (.string y)) := h.box_store 7 _ (heap_set h.box _) ⟨h.ok.tc, h.ok.rd, h.ok.rm, h.ok.ws⟩
/-- one more -/
theorem LdQ.pushC (h : LdQ w s x a b c d W) (y : ByteArray × Int) (hl : x.tc.length ≤ 1000000) :
    ∃ a1 c1 X, Hid (∀ ty, (Builtin.append_ #[34, 34] ty #[a, .slice (some ⟨W.heap.size, 0, none⟩) 1 1]).run Tryz.prog (W.alloc (.cells #[.string y.1, .int .i64 y.2] 48)) = .ok (.slice a1 (x.tc.length + 1) c1) X) ∧ X.heap[w.heap.size + 2]? = W.heap[w.heap.size + 2]? ∧
      Hid (LdQ w s { x with tc := x.tc ++ [y] } (.slice a1 (x.tc.length + 1) c1) b c d (X.setCell ⟨w.heap.size + 2, 2, none⟩ (.slice a1 (x.tc.length + 1) c1))) := by
  have hB : w.heap.size ≤ W.heap.size := h.bel.size
  obtain ⟨v', X, hr, ho, hg, _⟩ := push_row (P := Tryz.prog) (t := 34) Tryz.underlying34 info_col rfl (by omega) h.ok.tc hB [.string y.1, .int .i64 y.2] rfl (fun u hu => by simp at hu; rcases hu with rfl | rfl <;> rfl) (by omega) (by omega)
  obtain ⟨a1, c1, rfl, _⟩ := ownsRow_form ho
  have keep : ∀ (k : Nat) (cs : Array Value) (t : TypeId), W.heap[k]? = some (.cells cs t (0, 0)) → t ≠ 48 → X.heap[k]? = W.heap[k]? := fun k cs t hk ht => hg.block k (lt_of_heap hk) (fun e => row_ne h.ok.tc hk ht k e.symm rfl)
  have kp : ∀ {e : TypeId} {k : Nat} {v : Value} {n : Nat} {xs : List Value}, e ≠ 48 → W.ownsRow w.heap.size e k v n xs → X.ownsRow w.heap.size e k v n xs := fun he ho => ownsRow_of_block ho fun g hg => by
    obtain ⟨cur, hc⟩ := typ_of ho g hg
    exact keep g cur _ hc he
  have hbox := keep _ _ _ h.box (by decide)
  obtain ⟨ra, rn, rc, hrd, hrh, hrb⟩ := h.rd
  have hbX : Below w.heap.size w X := h.bel.trans (below_grown hg hB (ownsRow_ge h.ok.tc))
  have hrX : RdAt X (w.heap.size + 1) s := RdAt.frame (w := W) ⟨ra, rn, rc, hrd, hrh, hrb⟩ fun k hk => by
    rcases Nat.lt_or_ge k w.heap.size with g | g
    · exact hg.block k (by omega) (fun e => by have := (h.ok.tc.lt k e.symm).1; omega)
    · rcases Nat.lt_or_ge k (w.heap.size + 1) with g2 | g2
      · have : k = w.heap.size := by omega
        subst this
        exact keep _ _ _ h.res (by decide)
      · have : k = w.heap.size + 1 := by omega
        subst this
        exact keep _ _ _ hrd (by decide)
  obtain ⟨vs, hv, hvl, hvw⟩ := h.ok.ws
  have okX : RecOk w.heap.size { x with tc := x.tc ++ [y] } (.slice a1 (x.tc.length + 1) c1) b c d X := ⟨(by show X.ownsRow _ _ _ _ (x.tc ++ [y]).length (fl2 ((x.tc ++ [y]).map colC)); rw [List.length_append, List.map_append, List.map_cons, List.map_nil, fl2_snoc]; exact ho), kp (by decide) h.ok.rd, kp (by decide) h.ok.rm, vs, kp (by decide) hv, hvl, fun i u r hu hrr => kp (by decide) (hvw i u r hu hrr)⟩
  have hos : ∀ k, k ≠ w.heap.size + 2 → (X.setCell ⟨w.heap.size + 2, 2, none⟩ (.slice a1 (x.tc.length + 1) c1)).heap[k]? = X.heap[k]? := fun k hk => Below.heap_setCell _ _ _ k hk
  refine ⟨a1, c1, X, Lib.hid hr, hbox, Lib.hid ⟨hbX.setCell (p := ⟨w.heap.size + 2, 2, none⟩) (by show w.heap.size ≤ w.heap.size + 2; omega) _, hrX.frame fun k hk => hos k (by omega), (hos _ (by omega)).trans ((keep _ _ _ h.res (by decide)).trans h.res), heap_set (hbox.trans h.box) _, okX.keep fun k _ _ hkk ht => hos k (fun e => ?_)⟩⟩
  subst e
  rw [hbox, h.box] at hkk
  simp at hkk
  rcases ht with e | e | e | e | e <;> (rw [e] at hkk; exact absurd hkk.2 (by decide))
/-- one more -/
theorem LdQ.pushD (h : LdQ w s x a b c d W) (y : ByteArray) (hl : x.rd.length ≤ 1000000) :
    ∃ a1 c1 X, Hid (∀ ty, (Builtin.append_ #[37, 37] ty #[b, .slice (some ⟨W.heap.size, 0, none⟩) 1 1]).run Tryz.prog (W.alloc (.cells #[.string y] 9)) = .ok (.slice a1 (x.rd.length + 1) c1) X) ∧ X.heap[w.heap.size + 2]? = W.heap[w.heap.size + 2]? ∧
      Hid (LdQ w s { x with rd := x.rd ++ [y] } a (.slice a1 (x.rd.length + 1) c1) c d (X.setCell ⟨w.heap.size + 2, 5, none⟩ (.slice a1 (x.rd.length + 1) c1))) := by
  have hB : w.heap.size ≤ W.heap.size := h.bel.size
  obtain ⟨v', X, hr, ho, hg, _⟩ := push_row (P := Tryz.prog) (t := 37) Tryz.underlying37 info_strR rfl (by omega) h.ok.rd hB [.string y] rfl (fun u hu => by simp at hu; subst hu; rfl) (by omega) (by omega)
  obtain ⟨a1, c1, rfl, _⟩ := ownsRow_form ho
  have keep : ∀ (k : Nat) (cs : Array Value) (t : TypeId), W.heap[k]? = some (.cells cs t (0, 0)) → t ≠ 9 → X.heap[k]? = W.heap[k]? := fun k cs t hk ht => hg.block k (lt_of_heap hk) (fun e => row_ne h.ok.rd hk ht k e.symm rfl)
  have kp : ∀ {e : TypeId} {k : Nat} {v : Value} {n : Nat} {xs : List Value}, e ≠ 9 → W.ownsRow w.heap.size e k v n xs → X.ownsRow w.heap.size e k v n xs := fun he ho => ownsRow_of_block ho fun g hg => by
    obtain ⟨cur, hc⟩ := typ_of ho g hg
    exact keep g cur _ hc he
  have hbox := keep _ _ _ h.box (by decide)
  obtain ⟨ra, rn, rc, hrd, hrh, hrb⟩ := h.rd
  have hbX : Below w.heap.size w X := h.bel.trans (below_grown hg hB (ownsRow_ge h.ok.rd))
  have hrX : RdAt X (w.heap.size + 1) s := RdAt.frame (w := W) ⟨ra, rn, rc, hrd, hrh, hrb⟩ fun k hk => by
    rcases Nat.lt_or_ge k w.heap.size with g | g
    · exact hg.block k (by omega) (fun e => by have := (h.ok.rd.lt k e.symm).1; omega)
    · rcases Nat.lt_or_ge k (w.heap.size + 1) with g2 | g2
      · have : k = w.heap.size := by omega
        subst this
        exact keep _ _ _ h.res (by decide)
      · have : k = w.heap.size + 1 := by omega
        subst this
        exact keep _ _ _ hrd (by decide)
  obtain ⟨vs, hv, hvl, hvw⟩ := h.ok.ws
  have okX : RecOk w.heap.size { x with rd := x.rd ++ [y] } a (.slice a1 (x.rd.length + 1) c1) c d X := ⟨kp (by decide) h.ok.tc, (by show X.ownsRow _ _ _ _ (x.rd ++ [y]).length (strs (x.rd ++ [y])); rw [List.length_append]; unfold strs; rw [List.map_append, List.map_cons, List.map_nil]; exact ho), kp (by decide) h.ok.rm, vs, kp (by decide) hv, hvl, fun i u r hu hrr => kp (by decide) (hvw i u r hu hrr)⟩
  have hos : ∀ k, k ≠ w.heap.size + 2 → (X.setCell ⟨w.heap.size + 2, 5, none⟩ (.slice a1 (x.rd.length + 1) c1)).heap[k]? = X.heap[k]? := fun k hk => Below.heap_setCell _ _ _ k hk
  refine ⟨a1, c1, X, Lib.hid hr, hbox, Lib.hid ⟨hbX.setCell (p := ⟨w.heap.size + 2, 5, none⟩) (by show w.heap.size ≤ w.heap.size + 2; omega) _, hrX.frame fun k hk => hos k (by omega), (hos _ (by omega)).trans ((keep _ _ _ h.res (by decide)).trans h.res), heap_set (hbox.trans h.box) _, okX.keep fun k _ _ hkk ht => hos k (fun e => ?_)⟩⟩
  subst e
  rw [hbox, h.box] at hkk
  simp at hkk
  rcases ht with e | e | e | e | e <;> (rw [e] at hkk; exact absurd hkk.2 (by decide))
/-- one more -/
theorem LdQ.pushM (h : LdQ w s x a b c d W) (y : Int × ByteArray) (hl : x.rm.length ≤ 1000000) :
    ∃ a1 c1 X, Hid (∀ ty, (Builtin.append_ #[38, 38] ty #[c, .slice (some ⟨W.heap.size, 0, none⟩) 1 1]).run Tryz.prog (W.alloc (.cells #[.int .i64 y.1, .string y.2] 78)) = .ok (.slice a1 (x.rm.length + 1) c1) X) ∧ X.heap[w.heap.size + 2]? = W.heap[w.heap.size + 2]? ∧
      Hid (LdQ w s { x with rm := x.rm ++ [y] } a b (.slice a1 (x.rm.length + 1) c1) d (X.setCell ⟨w.heap.size + 2, 6, none⟩ (.slice a1 (x.rm.length + 1) c1))) := by
  have hB : w.heap.size ≤ W.heap.size := h.bel.size
  obtain ⟨v', X, hr, ho, hg, _⟩ := push_row (P := Tryz.prog) (t := 38) Tryz.underlying38 info_mea rfl (by omega) h.ok.rm hB [.int .i64 y.1, .string y.2] rfl (fun u hu => by simp at hu; rcases hu with rfl | rfl <;> rfl) (by omega) (by omega)
  obtain ⟨a1, c1, rfl, _⟩ := ownsRow_form ho
  have keep : ∀ (k : Nat) (cs : Array Value) (t : TypeId), W.heap[k]? = some (.cells cs t (0, 0)) → t ≠ 78 → X.heap[k]? = W.heap[k]? := fun k cs t hk ht => hg.block k (lt_of_heap hk) (fun e => row_ne h.ok.rm hk ht k e.symm rfl)
  have kp : ∀ {e : TypeId} {k : Nat} {v : Value} {n : Nat} {xs : List Value}, e ≠ 78 → W.ownsRow w.heap.size e k v n xs → X.ownsRow w.heap.size e k v n xs := fun he ho => ownsRow_of_block ho fun g hg => by
    obtain ⟨cur, hc⟩ := typ_of ho g hg
    exact keep g cur _ hc he
  have hbox := keep _ _ _ h.box (by decide)
  obtain ⟨ra, rn, rc, hrd, hrh, hrb⟩ := h.rd
  have hbX : Below w.heap.size w X := h.bel.trans (below_grown hg hB (ownsRow_ge h.ok.rm))
  have hrX : RdAt X (w.heap.size + 1) s := RdAt.frame (w := W) ⟨ra, rn, rc, hrd, hrh, hrb⟩ fun k hk => by
    rcases Nat.lt_or_ge k w.heap.size with g | g
    · exact hg.block k (by omega) (fun e => by have := (h.ok.rm.lt k e.symm).1; omega)
    · rcases Nat.lt_or_ge k (w.heap.size + 1) with g2 | g2
      · have : k = w.heap.size := by omega
        subst this
        exact keep _ _ _ h.res (by decide)
      · have : k = w.heap.size + 1 := by omega
        subst this
        exact keep _ _ _ hrd (by decide)
  obtain ⟨vs, hv, hvl, hvw⟩ := h.ok.ws
  have okX : RecOk w.heap.size { x with rm := x.rm ++ [y] } a b (.slice a1 (x.rm.length + 1) c1) d X := ⟨kp (by decide) h.ok.tc, kp (by decide) h.ok.rd, (by show X.ownsRow _ _ _ _ (x.rm ++ [y]).length (fl2 ((x.rm ++ [y]).map meaC)); rw [List.length_append, List.map_append, List.map_cons, List.map_nil, fl2_snoc]; exact ho), vs, kp (by decide) hv, hvl, fun i u r hu hrr => kp (by decide) (hvw i u r hu hrr)⟩
  have hos : ∀ k, k ≠ w.heap.size + 2 → (X.setCell ⟨w.heap.size + 2, 6, none⟩ (.slice a1 (x.rm.length + 1) c1)).heap[k]? = X.heap[k]? := fun k hk => Below.heap_setCell _ _ _ k hk
  refine ⟨a1, c1, X, Lib.hid hr, hbox, Lib.hid ⟨hbX.setCell (p := ⟨w.heap.size + 2, 6, none⟩) (by show w.heap.size ≤ w.heap.size + 2; omega) _, hrX.frame fun k hk => hos k (by omega), (hos _ (by omega)).trans ((keep _ _ _ h.res (by decide)).trans h.res), heap_set (hbox.trans h.box) _, okX.keep fun k _ _ hkk ht => hos k (fun e => ?_)⟩⟩
  subst e
  rw [hbox, h.box] at hkk
  simp at hkk
  rcases ht with e | e | e | e | e <;> (rw [e] at hkk; exact absurd hkk.2 (by decide))
/-- a row more -/
theorem LdQ.pushR (h : LdQ w s x a b c d W) {r1 : Option Addr} {rn rc : Nat} (y : List VV) (hy : W.ownsRow w.heap.size 99 3 (.slice r1 rn rc) y.length (flatC y)) (hl : x.ws.length ≤ 1000000) :
    ∃ a1 c1 X, Hid (∀ ty, (Builtin.append_ #[41, 41] ty #[d, .slice (some ⟨W.heap.size, 0, none⟩) 1 1]).run Tryz.prog (W.alloc (.cells #[.slice r1 rn rc] 79)) = .ok (.slice a1 (x.ws.length + 1) c1) X) ∧ X.heap[w.heap.size + 2]? = W.heap[w.heap.size + 2]? ∧
      Hid (LdQ w s { x with ws := x.ws ++ [y] } a b c (.slice a1 (x.ws.length + 1) c1) (X.setCell ⟨w.heap.size + 2, 8, none⟩ (.slice a1 (x.ws.length + 1) c1))) := by
  have hB : w.heap.size ≤ W.heap.size := h.bel.size
  obtain ⟨vs, hv, hin⟩ := h.ok.ws
  obtain ⟨v', X, hr, ho, hg, _⟩ := push_row (P := Tryz.prog) (t := 41) Tryz.underlying41 info_row rfl (by omega) hv hB [.slice r1 rn rc] rfl (fun u hu => by simp at hu; subst hu; rfl) (by omega) (by omega)
  obtain ⟨a1, c1, rfl, _⟩ := ownsRow_form ho
  have keep : ∀ (k : Nat) (cs : Array Value) (t : TypeId), W.heap[k]? = some (.cells cs t (0, 0)) → t ≠ 79 → X.heap[k]? = W.heap[k]? := fun k cs t hk ht => hg.block k (lt_of_heap hk) (fun e => row_ne hv hk ht k e.symm rfl)
  have kp : ∀ {e : TypeId} {k : Nat} {v : Value} {n : Nat} {xs : List Value}, e ≠ 79 → W.ownsRow w.heap.size e k v n xs → X.ownsRow w.heap.size e k v n xs := fun he ho => ownsRow_of_block ho fun g hg => by
    obtain ⟨cur, hc⟩ := typ_of ho g hg
    exact keep g cur _ hc he
  have hbox := keep _ _ _ h.box (by decide)
  obtain ⟨ra, rdn, rdc, hrd, hrh, hrb⟩ := h.rd
  have hbX : Below w.heap.size w X := h.bel.trans (below_grown hg hB (ownsRow_ge hv))
  have hrX : RdAt X (w.heap.size + 1) s := RdAt.frame (w := W) ⟨ra, rdn, rdc, hrd, hrh, hrb⟩ fun k hk => by
    rcases Nat.lt_or_ge k w.heap.size with g | g
    · exact hg.block k (by omega) (fun e => by have := (hv.lt k e.symm).1; omega)
    · rcases Nat.lt_or_ge k (w.heap.size + 1) with g2 | g2
      · have : k = w.heap.size := by omega
        subst this
        exact keep _ _ _ h.res (by decide)
      · have : k = w.heap.size + 1 := by omega
        subst this
        exact keep _ _ _ hrd (by decide)
  have hin2 : RowsIn w.heap.size (vs ++ [.slice r1 rn rc]) (x.ws ++ [y]) X := (hin.of_block (fun g cur hg _ => keep g cur _ hg (by decide))).snoc (kp (by decide) hy)
  have okX : RecOk w.heap.size { x with ws := x.ws ++ [y] } a b c (.slice a1 (x.ws.length + 1) c1) X := ⟨kp (by decide) h.ok.tc, kp (by decide) h.ok.rd, kp (by decide) h.ok.rm, vs ++ [.slice r1 rn rc], by show X.ownsRow _ _ _ _ (x.ws ++ [y]).length _; rw [List.length_append]; exact ho, hin2⟩
  have hos : ∀ k, k ≠ w.heap.size + 2 → (X.setCell ⟨w.heap.size + 2, 8, none⟩ (.slice a1 (x.ws.length + 1) c1)).heap[k]? = X.heap[k]? := fun k hk => Below.heap_setCell _ _ _ k hk
  refine ⟨a1, c1, X, Lib.hid hr, hbox, Lib.hid ⟨hbX.setCell (p := ⟨w.heap.size + 2, 8, none⟩) (by show w.heap.size ≤ w.heap.size + 2; omega) _, hrX.frame fun k hk => hos k (by omega), (hos _ (by omega)).trans ((keep _ _ _ h.res (by decide)).trans h.res), heap_set (hbox.trans h.box) _, okX.keep fun k _ _ hkk ht => hos k (fun e => ?_)⟩⟩
  subst e
  rw [hbox, h.box] at hkk
  simp at hkk
  rcases ht with e | e | e | e | e <;> (rw [e] at hkk; exact absurd hkk.2 (by decide))
end
end Go.Proofs.YtehfoaicohnpfaaGreatDoor
/- Contract of the document's own Load of values at any bytes. Conditions: at most 10^6 bytes. -/
set_option maxRecDepth 100000
namespace Go.Proofs.YtehfoaicohnpfaaGreatDoor
open Go.RowKit Go.Maps Go.Sort Go.Lib

/-- whichever good values the bytes are of: they begin with those that were read, and the rest is what is left -/
def KeyR (whole : List UInt8) (acc : List VV) (rest : List UInt8) : Prop :=
  ∀ ws : List VV, (∀ x ∈ ws, x.good = true ∧ x.inI) → ws.length < 18446744073709551616 → whole = bytesV ws → ∃ ws', ws = acc ++ ws' ∧ rest = flatV ws'
theorem key_n {whole : List UInt8} {ws : List VV} (h2 : ws.length < 18446744073709551616) (h3 : whole = bytesV ws) : (getN whole).1 = ws.length ∧ (getN whole).2 ≠ 0 ∧ whole.drop (getN whole).2 = flatV ws := by
  subst h3
  unfold bytesV
  rw [get_app _ h2]
  refine ⟨rfl, ?_, List.drop_left⟩
  have := dig_pos ws.length
  simp only
  omega
theorem key_start (whole : List UInt8) : KeyR whole [] (whole.drop (getN whole).2) := fun ws _ h2 h3 => ⟨ws, rfl, (key_n h2 h3).2.2⟩
/-- what a good value's bytes tell of it -/
theorem okR_of {x : VV} (h : x.good = true) (hi : x.inI) (r : List UInt8) :
    (getN (x.bytes ++ r)).2 ≠ 0 ∧ (getN (x.bytes ++ r)).1 ≤ 4 ∧ ((getN (x.bytes ++ r)).1 ≠ 0 → (getN ((x.bytes ++ r).drop (getN (x.bytes ++ r)).2)).2 ≠ 0) ∧
    ((getN (x.bytes ++ r)).1 = 3 → (getN ((x.bytes ++ r).drop (getN (x.bytes ++ r)).2)).1 ≤ (x.bytes ++ r).length - ((getN (x.bytes ++ r)).2 + (getN ((x.bytes ++ r).drop (getN (x.bytes ++ r)).2)).2)) := by
  have hk := goodV_kind h
  have e : x.bytes ++ r = dig x.k.toNat ++ (x.body ++ r) := by unfold VV.bytes; rw [List.append_assoc]
  have g1 := get_app x.k.toNat (by omega) (x.body ++ r)
  have p1 := dig_pos x.k.toNat
  rw [← e] at g1
  have d1 : (x.bytes ++ r).drop (dig x.k.toNat).length = x.body ++ r := by rw [e]; exact List.drop_left
  rw [g1]
  simp only
  rw [d1]
  refine ⟨by omega, by omega, fun h0 => ?_, fun h3 => ?_⟩
  · have hb : ∃ u t, u < 18446744073709551616 ∧ x.body = dig u ++ t := by
      unfold VV.body
      rcases good_cases h with rfl | ⟨e, _⟩ | ⟨e, _⟩ | ⟨e, _, es⟩ | ⟨e, _⟩
      · simp [VV.none_] at h0
      · rw [if_pos (.inl e)]; exact ⟨_, [], (zig_zag _ hi.1 hi.2).2, (List.append_nil _).symm⟩
      · rw [if_pos (.inr (.inl e))]; exact ⟨_, [], (zig_zag _ hi.1 hi.2).2, (List.append_nil _).symm⟩
      · rw [if_neg (by omega), if_pos e]; exact ⟨_, _, by omega, rfl⟩
      · rw [if_pos (.inr (.inr e))]; exact ⟨_, [], (zig_zag _ hi.1 hi.2).2, (List.append_nil _).symm⟩
    obtain ⟨u, t, hu, hb⟩ := hb
    rw [hb, List.append_assoc, get_app u hu]
    have := dig_pos u
    simp only
    omega
  · have e3 : x.k = 3 := by omega
    rcases good_cases h with rfl | ⟨e, _⟩ | ⟨e, _⟩ | ⟨_, _, es⟩ | ⟨e, _⟩
    · simp [VV.none_] at e3
    · omega
    · omega
    · have hb : x.body = dig x.s.size ++ x.s.data.toList := by unfold VV.body; rw [if_neg (by omega), if_pos e3]
      rw [hb, List.append_assoc, get_app _ (by omega)]
      have hl := congrArg List.length e
      rw [hb] at hl
      simp only [List.length_append] at hl ⊢
      have := Lib.size_eq x.s
      omega
    · omega
/-- there is a value more, and it stands ahead -/
theorem key_more {whole rest : List UInt8} {acc ws : List VV} (h : KeyR whole acc rest) (h1 : ∀ x ∈ ws, x.good = true ∧ x.inI) (h2 : ws.length < 18446744073709551616) (h3 : whole = bytesV ws) (hlt : acc.length < (getN whole).1) :
    ∃ x r, ws = acc ++ x :: r ∧ rest = x.bytes ++ flatV r ∧ x.good = true ∧ x.inI := by
  obtain ⟨ws', e1, e2⟩ := h ws h1 h2 h3
  have hn := (key_n h2 h3).1
  cases ws' with
  | nil => rw [e1] at hn; simp at hn; omega
  | cons x r =>
    have hx := h1 x (by rw [e1]; simp)
    exact ⟨x, r, e1, by rw [e2, flatV_cons, norm_of hx.1], hx.1, hx.2⟩
theorem key_stop {whole rest : List UInt8} {acc : List VV} (h : KeyR whole acc rest) (hb : whole.length < 18446744073709551616) (hlt : acc.length < (getN whole).1)
    (hno : ∀ (x : VV) (r : List UInt8), x.good = true → x.inI → rest = x.bytes ++ r → False) : loadV whole = none :=
  (load_none hb).2 fun ws h1 h2 h3 => by
    obtain ⟨x, r, _, e, hg, hi⟩ := key_more h h1 h2 h3 hlt
    exact hno x _ hg hi e
theorem key_next {whole rest : List UInt8} {acc : List VV} (h : KeyR whole acc rest) (hlt : acc.length < (getN whole).1) : KeyR whole (acc ++ [(firstV rest).1]) (rest.drop (firstV rest).2) := fun ws h1 h2 h3 => by
  obtain ⟨x, r, e1, e2, hg, hi⟩ := key_more h h1 h2 h3 hlt
  have hf := first_good hg hi (flatV r)
  rw [← e2] at hf
  refine ⟨r, ?_, ?_⟩
  · rw [hf, e1]; simp
  · rw [hf, e2]; exact List.drop_left
/-- all of them were read: the bytes tell whether they are those -/
theorem key_end {whole rest : List UInt8} {acc : List VV} (h : KeyR whole acc rest) (hb : whole.length < 18446744073709551616) (hn : acc.length = (getN whole).1) (hg : ∀ x ∈ acc, x.good = true ∧ x.inI) : loadV whole = if bytesV acc = whole then some acc else none := by
  by_cases he : bytesV acc = whole
  · rw [if_pos he]
    exact (load_iff hb).2 ⟨hg, by rw [hn]; exact (getN_bound whole).2, he.symm⟩
  · rw [if_neg he]
    refine (load_none hb).2 fun ws h1 h2 h3 => ?_
    obtain ⟨ws', e1, _⟩ := h ws h1 h2 h3
    have := (key_n h2 h3).1
    rw [e1, List.length_append] at this
    have : ws' = [] := List.eq_nil_of_length_eq_zero (by omega)
    rw [this, List.append_nil] at e1
    exact he (by rw [← e1]; exact h3.symm)
theorem good_snoc {acc : List VV} {k n : Int} {s : ByteArray} (h : ∀ x ∈ acc, x.good = true ∧ x.inI) (hg : goodV k n s = true) (hi : VV.inI ⟨k, n, s⟩) : ∀ x ∈ acc ++ [⟨k, n, s⟩], VV.good x = true ∧ VV.inI x := fun x hx => by
  rcases List.mem_append.1 hx with hx | hx
  · exact h x hx
  · simp at hx; subst hx; exact ⟨hg, hi⟩
theorem len_lt {i m N : Nat} (h : i < N) (e : m = i) : m < N := by omega
theorem le_u64 {n : Nat} (h : n ≤ 1000000) : n < 18446744073709551616 := by omega
theorem wrap_m {m n : Nat} (h : m ≤ n) (h2 : n ≤ 1000000) : IntKind.u64.wrap (m : Int) = (m : Int) := by rw [IntKind.wrap_u64]; omega
theorem le_acc {i m N n : Nat} (e : m = i) (h : i < N) (h2 : N ≤ n) (h3 : n ≤ 1000000) : m ≤ 1000000000000 := by omega
theorem le_five {m n : Nat} (h : m ≤ n) (h2 : n ≤ 1000000) : m ≤ 1099511627776 := by omega
theorem first_null_eq {l : List UInt8} (hk : (getN l).1 = 0) : firstV l = (⟨0, 0, ⟨#[]⟩⟩, (getN l).2) := by
  unfold firstV
  dsimp only
  rw [hk, if_neg (by decide), if_neg (by decide)]
  rfl
theorem kind_cases {k : Nat} (h : k ≤ 4) : k = 0 ∨ k = 1 ∨ k = 2 ∨ k = 3 ∨ k = 4 := by omega
theorem stop_P {x : VV} {r rest : List UInt8} (h : x.good = true) (hi : x.inI) (e : rest = x.bytes ++ r) (hP : (getN rest).2 = 0) : False := by
  subst e; exact (okR_of h hi r).1 hP
theorem stop_K {x : VV} {r rest : List UInt8} (h : x.good = true) (hi : x.inI) (e : rest = x.bytes ++ r) (hK : 4 < (getN rest).1) : False := by
  subst e; have := (okR_of h hi r).2.1; omega
theorem stop_M {x : VV} {r rest : List UInt8} (h : x.good = true) (hi : x.inI) (e : rest = x.bytes ++ r) (hK : (getN rest).1 ≠ 0) (hM : (getN (rest.drop (getN rest).2)).2 = 0) : False := by
  subst e; exact (okR_of h hi r).2.2.1 hK hM
theorem stop_U {x : VV} {r rest : List UInt8} (h : x.good = true) (hi : x.inI) (e : rest = x.bytes ++ r) (hK : (getN rest).1 = 3) (hU : rest.length - ((getN rest).2 + (getN (rest.drop (getN rest).2)).2) < (getN (rest.drop (getN rest).2)).1) : False := by
  subst e; have := (okR_of h hi r).2.2.2 hK; omega
theorem stop_G {x : VV} {r rest : List UInt8} (h : x.good = true) (hi : x.inI) (e : rest = x.bytes ++ r) (hb : (firstV rest).1.good = false) : False := by
  subst e; rw [first_good h hi r] at hb; simp only at hb; rw [h] at hb; cases hb
theorem head_stop {whole : List UInt8} (hb : whole.length < 18446744073709551616) (h : (getN whole).2 = 0 ∨ whole.length < (getN whole).1) : loadV whole = none :=
  (load_none hb).2 fun ws h1 h2 h3 => by
    obtain ⟨a, b, c⟩ := key_n h2 h3
    rcases h with h | h
    · exact b h
    · have hl : ∀ l : List VV, l.length ≤ (flatV l).length := fun l => by
        induction l with
        | nil => simp
        | cons x r ih =>
          have := bytes_pos x.norm
          rw [flatV_cons, List.length_append, List.length_cons]; omega
      have := hl ws
      have hd := congrArg List.length c
      rw [List.length_drop] at hd
      omega
theorem rget_below {w : World} {v : Value} {l : List UInt8} (H : Holds w v (u8s l)) (hl : l.length ≤ 1099511627776) : ∀ w', Below w.heap.size w w' → Calls Tryz.prog 45 #[v] w' fun e w'' => e = .returned (.tuple #[.int .u64 ((getN l).1 : Int), .int .i64 ((getN l).2 : Int)]) ∧ w' = w'' :=
  fun _ hb => refGet_any (H.below hb) (by omega)
set_option maxHeartbeats 6400000 in
theorem refvload_own {w : World} {v : Value} {l : List UInt8} (H : Holds w v (u8s l)) (hl : l.length ≤ 1000000) : Calls Tryz.prog 32 #[v] w (LoadO w l) := by
  have hb64 : l.length < 18446744073709551616 := by omega
  have KG := refGet_any H (by omega)
  have hG := getN_bound l
  have hks := key_start l
  have HST := Lib.hid (head_stop hb64)
  have HS := Lib.hid (fun (w0 : World) (hb : Below w.heap.size w w0) => toStr (H.below hb))
  obtain ⟨a, c, rfl, hc⟩ := H.form
  have hne : (getN l).2 ≠ 0 → ∃ ad, a = some ad := fun h => by
    have : l ≠ [] := fun e => h (by rw [e]; rfl)
    exact H.ptr (by rw [u8s_len]; exact List.length_pos_iff.2 this)
  rw [u8s_len] at *
  have hwl : IntKind.u64.wrap (l.length : Int) = (l.length : Int) := by rw [IntKind.wrap_u64]; omega
  have HKN := Lib.hid (fun (rest : List UInt8) (acc : List VV) => @key_next l rest acc)
  have HKS := Lib.hid (fun (rest : List UInt8) (acc : List VV) => @key_stop l rest acc)
  have HKE := Lib.hid (fun (rest : List UInt8) (acc : List VV) => @key_end l rest acc)
  generalize (getN l).1 = N at *
  generalize (getN l).2 = P at *
  have p2 : (l.length : Int) ≤ (c : Int) := Int.ofNat_le.2 hc
  by_cases hP : P = 0
  · have t0 := beq_cast hP
    have hst := HST.out (.inl hP)
    clear HKN HKS HKE HST HS hks hne hP hG hb64 hl H hc
    generalize l.length = n at *
    go_enter Tryz.func32, Tryz.ntmps32
    go_wp2_with fail
    refine KG.mono ?_
    rintro e w1 ⟨rfl, rfl⟩
    go_wp2_with fail
    go_ret2
    exact ⟨⟨_, .inr ⟨hst, rfl, rfl⟩⟩, Below.refl _ _⟩
  by_cases hN : l.length < N
  · have t0 := bne_cast hP
    have t1 : decide (l.length < N) = true := decide_eq_true hN
    have hst := HST.out (.inr hN)
    clear HKN HKS HKE HST HS hks hne hP hG hb64 hl H hc hN
    generalize l.length = n at *
    go_enter Tryz.func32, Tryz.ntmps32
    go_wp2_with fail
    refine KG.mono ?_
    rintro e w1 ⟨rfl, rfl⟩
    go_wp2_with fail
    go_ret2
    exact ⟨⟨_, .inr ⟨hst, rfl, rfl⟩⟩, Below.refl _ _⟩
  have t0 := bne_cast hP
  have t1 : decide (l.length < N) = false := decide_eq_false hN
  obtain ⟨ad, rfl⟩ := hne hP
  obtain ⟨A0, if1, if1', hH0⟩ := cut_ahead H hG.1
  have p0 : (0 : Int) ≤ (P : Int) := Int.natCast_nonneg P
  have p1 : (P : Int) ≤ (l.length : Int) := Int.ofNat_le.2 hG.1
  have HH0 := Lib.hid hH0
  have HK0 := Lib.hid hks
  have HL := Lib.hid hl
  have HN := Lib.hid (Nat.le_of_not_lt hN)
  obtain ⟨n, hn⟩ : ∃ n, n = l.length := ⟨_, rfl⟩
  rw [← hn] at p1 p2 t1 hwl HH0 HL HN HS KG ⊢
  have HNL := Lib.hid hn
  clear HST hks hne hP hN hG hl H hc hH0 hn
  go_enter Tryz.func32, Tryz.ntmps32
  go_wp2_with fail
  refine KG.mono ?_
  rintro e w1 ⟨rfl, rfl⟩
  clear KG
  go_wp2_with fail
  go_loopw [0, 7, 8, 9, 10, 11, 12, 13] (fun s0 s7 s8 _ _ _ _ _ wr => ∃ (i : Nat) (v : Value) (acc : List VV) (rest : List UInt8) (m cA : Nat) (A : Addr), s8 = .int .u64 i ∧ v = s7 ∧ s0 = .slice (some A) m cA ∧ i ≤ N ∧ m ≤ cA ∧ m ≤ n ∧ acc.length = i ∧ rest.length = m ∧ Hid (OutV w wr v acc) ∧ Hid (KeyR l acc rest) ∧ Hid (∀ x ∈ acc, x.good = true ∧ x.inI) ∧ Hid (Holds w (.slice (some A) m cA) (u8s rest))) (fun _ _ k _ _ _ _ _ _ => N - (RowKit.intOf k).toNat)
  case atStart =>
    have h1 := HH0.out.len
    rw [u8s_len] at h1
    exact ⟨0, _, [], _, _, _, A0, rfl, rfl, rfl, Nat.zero_le _, h1.2, Nat.sub_le _ _, rfl, h1.1, Lib.hid (OutV.nil w), HK0, Lib.hid (fun x hx => absurd hx (by simp)), HH0⟩
  case round =>
    clear HK0 HH0 if1 if1' p0 p1 p2 t0 t1
    obtain ⟨i, v, acc, rest, m, cA, A, rfl, rfl, rfl, hiN, hmc, hmn, hal, hrl, HO, HK, HG, HH⟩ := hrel
    by_cases hlt : i < N
    · have b1 : (i : Int) < (N : Int) := Int.ofNat_lt.2 hlt
      have hw64 := u64_next hlt (Nat.lt_of_le_of_lt HN.out (le_u64 HL.out))
      have haN := len_lt hlt hal
      have hRB := getN_bound rest
      rw [hrl] at hRB
      have KG := rget_below HH.out (by rw [hrl]; exact le_five hmn HL.out) wr HO.out.2
      have HStop := Lib.hid (fun hno => HKS.out _ _ HK.out hb64 haN hno)
      have HNext := Lib.hid (HKN.out _ _ HK.out haN)
      have HAP := Lib.hid (fun w0 v0 (y : VV) (ho : OutV w w0 v0 acc) => ho.app y (le_acc hal hlt HN.out HL.out))
      obtain ⟨K, hK⟩ : ∃ K, (getN rest).1 = K := ⟨_, rfl⟩
      obtain ⟨P, hP⟩ : ∃ P, (getN rest).2 = P := ⟨_, rfl⟩
      rw [hK, hP] at KG hRB
      by_cases hP0 : P = 0
      · have t0 := beq_cast hP0
        have hst := HStop.out (fun x r h hi e => stop_P h hi e (hP.trans hP0))
        clear HStop HNext HAP HK HG HH hRB hP0 hK hP haN hal hrl hiN hmc hmn hlt
        go_wp2_with fail
        refine KG.mono ?_
        rintro e w1 ⟨rfl, rfl⟩
        go_wp2_with fail
        go_ret2
        exact ⟨⟨_, .inr ⟨hst, rfl, rfl⟩⟩, HO.out.2⟩
      have t0 := bne_cast hP0
      by_cases hK4 : 4 < K
      · have t1 : decide ((4 : Int) < (K : Int)) = true := decide_eq_true (Int.ofNat_lt.2 hK4)
        have hst := HStop.out (fun x r h hi e => stop_K h hi e (hK ▸ hK4))
        clear HStop HNext HAP HK HG HH hRB hP0 hK hP haN hal hrl hiN hmc hmn hlt hK4
        go_wp2_with fail
        refine KG.mono ?_
        rintro e w1 ⟨rfl, rfl⟩
        go_wp2_with fail
        go_ret2
        exact ⟨⟨_, .inr ⟨hst, rfl, rfl⟩⟩, HO.out.2⟩
      obtain ⟨A1, if1, if1', hH1⟩ := cut_ahead HH.out hRB.1
      have p0 : (0 : Int) ≤ (P : Int) := Int.natCast_nonneg P
      have p1 : (P : Int) ≤ (m : Int) := Int.ofNat_le.2 hRB.1
      have p2 : (m : Int) ≤ (cA : Int) := Int.ofNat_le.2 hmc
      rcases kind_cases (Nat.le_of_not_lt hK4) with rfl | rfl | rfl | rfl | rfl
      · have hf := first_null_eq hK
        rw [hP] at hf
        have KGd := refvgood_any 0 0 ⟨#[]⟩ (by decide) (by decide)
        have hin : VV.inI ⟨0, 0, ⟨#[]⟩⟩ := inI_none
        have HHn := Lib.hid hH1
        have hrl1 : (rest.drop P).length = m - P := by rw [List.length_drop, hrl]
        clear hH1 HH hP0 hRB hK4
        go_wp2_with fail
        refine KG.mono ?_
        rintro e w1 ⟨rfl, rfl⟩
        clear KG
        go_wp2_with fail
        refine (KGd _).mono ?_
        rintro e w3 ⟨rfl, hb3⟩
        have hbz : Below wr.heap.size wr w3 := ((Below.refl _ _).alloc (Nat.le_refl _) _).trans (hb3.mono (show wr.heap.size ≤ _ by simp))
        obtain ⟨k1, k2, k3⟩ := (C3.new wr (.int .i64 0) (.int .i64 0) (.string ⟨#[]⟩) 99).keep hb3 (by simp)
        have HO3 := Lib.hid (HO.out.next hbz)
        clear hb3 hbz KGd
        cases hgd : goodV 0 0 ⟨#[]⟩
        · have hst := HStop.out (fun x r h hi e => stop_G h hi e (by rw [hf]; exact hgd))
          go_wp2_with fail
          go_ret2
          exact ⟨⟨_, .inr ⟨hst, rfl, rfl⟩⟩, HO3.out.2⟩
        · obtain ⟨v', w', r, HO4⟩ := HAP.out _ _ ⟨0, 0, ⟨#[]⟩⟩ HO3.out
          have R1 := Lib.hid r
          have HO5 := Lib.hid HO4
          have HG2 : Hid (∀ x ∈ acc ++ [⟨0, 0, ⟨#[]⟩⟩], VV.good x = true ∧ VV.inI x) := Lib.hid (good_snoc HG.out hgd hin)
          have HK2 := HNext.out
          rw [hf] at HK2
          have HK3 := Lib.hid HK2
          clear HO3 r HO4 HAP HNext HStop HG HO HK2
          go_wp2_with (at_builtin; refine wpList_append_run rfl _ _ 79 rfl rfl rfl (R1.out _) ?_)
          go_roundw
          case rel => exact ⟨i + 1, _, _, _, _, _, A1, by go_num, rfl, rfl, hlt, Nat.sub_le_sub_right hmc P, Nat.le_trans (Nat.sub_le _ _) hmn, by rw [List.length_append, hal]; rfl, hrl1, HO5, HK3, HG2, HHn⟩
          case measure => simp [RowKit.intOf]; omega
      · have hf := first_num_eq (k := 1) hK (by omega)
        rw [hP] at hf
        have hl1 : (rest.drop P).length = m - P := by rw [List.length_drop, hrl]
        have hm1 : m - P ≤ n := Nat.le_trans (Nat.sub_le _ _) hmn
        have KG2 := rget_below hH1 (by rw [hl1]; exact le_five hm1 HL.out) _ (HO.out.2.alloc HO.out.2.size (.cells #[.int .i64 1, .int .i64 0, .string ⟨#[]⟩] 99))
        have hRB2 := getN_bound (rest.drop P)
        have hSM := fun x r (h : VV.good x = true) hi e => stop_M (x := x) (r := r) (rest := rest) h hi e (by rw [hK]; decide)
        rw [hP] at hSM
        obtain ⟨Q, hQ⟩ : ∃ Q, getN (rest.drop P) = Q := ⟨_, rfl⟩
        obtain ⟨U, M⟩ := Q
        rw [hQ] at hf KG2 hRB2 hSM
        rw [hl1] at hRB2
        simp only at hf KG2 hRB2 hSM
        clear hP0 hRB hK4 hK hP HH
        go_wp2_with fail
        refine KG.mono ?_
        rintro e w1 ⟨rfl, rfl⟩
        clear KG
        go_wp2_with fail
        refine KG2.mono ?_
        rintro e w1 ⟨rfl, rfl⟩
        clear KG2
        by_cases hM : M = 0
        · have t2 := beq_cast hM
          have hst := HStop.out (fun x r h hi e => hSM x r h hi e hM)
          have HBA := Lib.hid (HO.out.2.alloc HO.out.2.size (.cells #[.int .i64 1, .int .i64 0, .string ⟨#[]⟩] 99))
          go_wp2_with fail
          go_ret2
          exact ⟨⟨_, .inr ⟨hst, rfl, rfl⟩⟩, HBA.out⟩
        have t2 := bne_cast hM
        obtain ⟨A2, if2, if2', hH2⟩ := cut_ahead hH1 hRB2.1
        rw [List.drop_drop] at hH2
        have hl2 : (rest.drop (P + M)).length = m - P - M := by rw [List.length_drop, hrl]; exact Nat.sub_add_eq _ _ _
        have q0 : (0 : Int) ≤ (M : Int) := Int.natCast_nonneg M
        have q1 := hRB2.1
        have q2 : m - P ≤ cA - P := Nat.sub_le_sub_right hmc P
        have KZ := fun w => refZag_any U w hRB2.2
        have hzi := zag_inI U hRB2.2
        generalize zagN U = Z at *
        clear hM hRB2 hH1 hl1 if1 if1' hSM
        have hin : VV.inI ⟨1, Z, ⟨#[]⟩⟩ := hzi
        have KGd := refvgood_any 1 Z ⟨#[]⟩ hzi.1 hzi.2
        have HHn := Lib.hid hH2
        clear hH2 hzi
        go_wp2_with fail
        refine (KZ _).mono ?_
        rintro e w1 ⟨rfl, rfl⟩
        clear KZ
        go_wp2_with fail
        refine (KGd _).mono ?_
        rintro e w3 ⟨rfl, hb3⟩
        have hbz : Below wr.heap.size wr w3 := ((Below.refl _ _).alloc (Nat.le_refl _) _).trans (hb3.mono (show wr.heap.size ≤ _ by simp))
        obtain ⟨k1, k2, k3⟩ := (C3.new wr (.int .i64 1) (.int .i64 Z) (.string ⟨#[]⟩) 99).keep hb3 (by simp)
        have HO3 := Lib.hid (HO.out.next hbz)
        clear hb3 hbz KGd
        cases hgd : goodV 1 Z ⟨#[]⟩
        · have hst := HStop.out (fun x r h hi e => stop_G h hi e (by rw [hf]; exact hgd))
          go_wp2_with fail
          go_ret2
          exact ⟨⟨_, .inr ⟨hst, rfl, rfl⟩⟩, HO3.out.2⟩
        · obtain ⟨v', w', r, HO4⟩ := HAP.out _ _ ⟨1, Z, ⟨#[]⟩⟩ HO3.out
          have R1 := Lib.hid r
          have HO5 := Lib.hid HO4
          have HG2 : Hid (∀ x ∈ acc ++ [⟨1, Z, ⟨#[]⟩⟩], VV.good x = true ∧ VV.inI x) := Lib.hid (good_snoc HG.out hgd hin)
          have HK2 := HNext.out
          rw [hf] at HK2
          have HK3 := Lib.hid HK2
          clear HO3 r HO4 HAP HNext HStop HG HO HK2
          go_wp2_with (at_builtin; refine wpList_append_run rfl _ _ 79 rfl rfl rfl (R1.out _) ?_)
          go_roundw
          case rel => exact ⟨i + 1, _, _, _, _, _, A2, by go_num, rfl, rfl, hlt, Nat.sub_le_sub_right q2 M, Nat.le_trans (Nat.sub_le _ _) hm1, by rw [List.length_append, hal]; rfl, hl2, HO5, HK3, HG2, HHn⟩
          case measure => simp [RowKit.intOf]; omega
      · have hf := first_num_eq (k := 2) hK (by omega)
        rw [hP] at hf
        have hl1 : (rest.drop P).length = m - P := by rw [List.length_drop, hrl]
        have hm1 : m - P ≤ n := Nat.le_trans (Nat.sub_le _ _) hmn
        have KG2 := rget_below hH1 (by rw [hl1]; exact le_five hm1 HL.out) _ (HO.out.2.alloc HO.out.2.size (.cells #[.int .i64 2, .int .i64 0, .string ⟨#[]⟩] 99))
        have hRB2 := getN_bound (rest.drop P)
        have hSM := fun x r (h : VV.good x = true) hi e => stop_M (x := x) (r := r) (rest := rest) h hi e (by rw [hK]; decide)
        rw [hP] at hSM
        obtain ⟨Q, hQ⟩ : ∃ Q, getN (rest.drop P) = Q := ⟨_, rfl⟩
        obtain ⟨U, M⟩ := Q
        rw [hQ] at hf KG2 hRB2 hSM
        rw [hl1] at hRB2
        simp only at hf KG2 hRB2 hSM
        clear hP0 hRB hK4 hK hP HH
        go_wp2_with fail
        refine KG.mono ?_
        rintro e w1 ⟨rfl, rfl⟩
        clear KG
        go_wp2_with fail
        refine KG2.mono ?_
        rintro e w1 ⟨rfl, rfl⟩
        clear KG2
        by_cases hM : M = 0
        · have t2 := beq_cast hM
          have hst := HStop.out (fun x r h hi e => hSM x r h hi e hM)
          have HBA := Lib.hid (HO.out.2.alloc HO.out.2.size (.cells #[.int .i64 2, .int .i64 0, .string ⟨#[]⟩] 99))
          go_wp2_with fail
          go_ret2
          exact ⟨⟨_, .inr ⟨hst, rfl, rfl⟩⟩, HBA.out⟩
        have t2 := bne_cast hM
        obtain ⟨A2, if2, if2', hH2⟩ := cut_ahead hH1 hRB2.1
        rw [List.drop_drop] at hH2
        have hl2 : (rest.drop (P + M)).length = m - P - M := by rw [List.length_drop, hrl]; exact Nat.sub_add_eq _ _ _
        have q0 : (0 : Int) ≤ (M : Int) := Int.natCast_nonneg M
        have q1 := hRB2.1
        have q2 : m - P ≤ cA - P := Nat.sub_le_sub_right hmc P
        have KZ := fun w => refZag_any U w hRB2.2
        have hzi := zag_inI U hRB2.2
        generalize zagN U = Z at *
        clear hM hRB2 hH1 hl1 if1 if1' hSM
        have hin : VV.inI ⟨2, Z, ⟨#[]⟩⟩ := hzi
        have KGd := refvgood_any 2 Z ⟨#[]⟩ hzi.1 hzi.2
        have HHn := Lib.hid hH2
        clear hH2 hzi
        go_wp2_with fail
        refine (KZ _).mono ?_
        rintro e w1 ⟨rfl, rfl⟩
        clear KZ
        go_wp2_with fail
        refine (KGd _).mono ?_
        rintro e w3 ⟨rfl, hb3⟩
        have hbz : Below wr.heap.size wr w3 := ((Below.refl _ _).alloc (Nat.le_refl _) _).trans (hb3.mono (show wr.heap.size ≤ _ by simp))
        obtain ⟨k1, k2, k3⟩ := (C3.new wr (.int .i64 2) (.int .i64 Z) (.string ⟨#[]⟩) 99).keep hb3 (by simp)
        have HO3 := Lib.hid (HO.out.next hbz)
        clear hb3 hbz KGd
        cases hgd : goodV 2 Z ⟨#[]⟩
        · have hst := HStop.out (fun x r h hi e => stop_G h hi e (by rw [hf]; exact hgd))
          go_wp2_with fail
          go_ret2
          exact ⟨⟨_, .inr ⟨hst, rfl, rfl⟩⟩, HO3.out.2⟩
        · obtain ⟨v', w', r, HO4⟩ := HAP.out _ _ ⟨2, Z, ⟨#[]⟩⟩ HO3.out
          have R1 := Lib.hid r
          have HO5 := Lib.hid HO4
          have HG2 : Hid (∀ x ∈ acc ++ [⟨2, Z, ⟨#[]⟩⟩], VV.good x = true ∧ VV.inI x) := Lib.hid (good_snoc HG.out hgd hin)
          have HK2 := HNext.out
          rw [hf] at HK2
          have HK3 := Lib.hid HK2
          clear HO3 r HO4 HAP HNext HStop HG HO HK2
          go_wp2_with (at_builtin; refine wpList_append_run rfl _ _ 79 rfl rfl rfl (R1.out _) ?_)
          go_roundw
          case rel => exact ⟨i + 1, _, _, _, _, _, A2, by go_num, rfl, rfl, hlt, Nat.sub_le_sub_right q2 M, Nat.le_trans (Nat.sub_le _ _) hm1, by rw [List.length_append, hal]; rfl, hl2, HO5, HK3, HG2, HHn⟩
          case measure => simp [RowKit.intOf]; omega
      · have hf := first_str_eq hK
        rw [hP] at hf
        have hl1 : (rest.drop P).length = m - P := by rw [List.length_drop, hrl]
        have hm1 : m - P ≤ n := Nat.le_trans (Nat.sub_le _ _) hmn
        have KG2 := rget_below hH1 (by rw [hl1]; exact le_five hm1 HL.out) _ (HO.out.2.alloc HO.out.2.size (.cells #[.int .i64 3, .int .i64 0, .string ⟨#[]⟩] 99))
        have hRB2 := getN_bound (rest.drop P)
        have hSM := fun x r (h : VV.good x = true) hi e => stop_M (x := x) (r := r) (rest := rest) h hi e (by rw [hK]; decide)
        rw [hP] at hSM
        have hSU := fun x r (h : VV.good x = true) hi e => stop_U (x := x) (r := r) (rest := rest) h hi e hK
        rw [hP] at hSU
        obtain ⟨Q, hQ⟩ : ∃ Q, getN (rest.drop P) = Q := ⟨_, rfl⟩
        obtain ⟨U, M⟩ := Q
        rw [hQ] at hf KG2 hRB2 hSM hSU
        rw [hl1] at hRB2
        simp only at hf KG2 hRB2 hSM hSU
        clear hP0 hRB hK4 hK hP HH
        go_wp2_with fail
        refine KG.mono ?_
        rintro e w1 ⟨rfl, rfl⟩
        clear KG
        go_wp2_with fail
        refine KG2.mono ?_
        rintro e w1 ⟨rfl, rfl⟩
        clear KG2
        by_cases hM : M = 0
        · have t2 := beq_cast hM
          have hst := HStop.out (fun x r h hi e => hSM x r h hi e hM)
          have HBA := Lib.hid (HO.out.2.alloc HO.out.2.size (.cells #[.int .i64 3, .int .i64 0, .string ⟨#[]⟩] 99))
          go_wp2_with fail
          go_ret2
          exact ⟨⟨_, .inr ⟨hst, rfl, rfl⟩⟩, HBA.out⟩
        have t2 := bne_cast hM
        obtain ⟨A2, if2, if2', hH2⟩ := cut_ahead hH1 hRB2.1
        rw [List.drop_drop] at hH2
        have hl2 : (rest.drop (P + M)).length = m - P - M := by rw [List.length_drop, hrl]; exact Nat.sub_add_eq _ _ _
        have q0 : (0 : Int) ≤ (M : Int) := Int.natCast_nonneg M
        have q1 := hRB2.1
        have q2 : m - P ≤ cA - P := Nat.sub_le_sub_right hmc P
        have KZ := fun w => refZag_any U w hRB2.2
        have hzi := zag_inI U hRB2.2
        generalize zagN U = Z at *
        clear hM hRB2 hH1 hl1 if1 if1' hSM
        rw [hrl] at hSU hf
        have hw3 : IntKind.u64.wrap (((m - P - M : Nat) : Int)) = ((m - P - M : Nat) : Int) := wrap_m (Nat.le_trans (Nat.sub_le _ _) hm1) HL.out
        have e3 : m - (P + M) = m - P - M := Nat.sub_add_eq _ _ _
        rw [e3] at hSU hf
        by_cases hU : m - P - M < U
        · have t3 : decide (m - P - M < U) = true := decide_eq_true hU
          have hst := HStop.out (fun x r h hi e => hSU x r h hi e hU)
          have HBA := Lib.hid (HO.out.2.alloc HO.out.2.size (.cells #[.int .i64 3, .int .i64 Z, .string ⟨#[]⟩] 99))
          clear hU hSU hf hH2 hzi HStop HNext HAP
          go_wp2_with fail
          refine (KZ _).mono ?_
          rintro e w1 ⟨rfl, rfl⟩
          clear KZ
          go_wp2_with fail
          go_ret2
          exact ⟨⟨_, .inr ⟨hst, rfl, rfl⟩⟩, HBA.out⟩
        have t3 : decide (m - P - M < U) = false := decide_eq_false hU
        rw [if_neg hU, List.drop_drop] at hf
        obtain ⟨A3, if3, if3', hH3⟩ := cut_ahead hH2 (Nat.le_of_not_lt hU)
        rw [List.drop_drop] at hH3
        have hl3 : (rest.drop (P + M + U)).length = m - P - M - U := by rw [List.length_drop, hrl, ← e3]; exact Nat.sub_add_eq _ _ _
        have hT := hH2.take U (Nat.le_of_not_lt hU)
        rw [u8s_take'] at hT
        generalize (rest.drop (P + M)).take U = X at *
        have KS := toStr (hT.below (w' := wr.alloc (.cells #[.int .i64 3, .int .i64 0, .string ⟨#[]⟩] 99)) (HO.out.2.alloc HO.out.2.size _))
        have r0 : (0 : Int) ≤ (U : Int) := Int.natCast_nonneg U
        have r1 := Nat.le_of_not_lt hU
        have r2 : m - P - M ≤ cA - P - M := Nat.sub_le_sub_right q2 M
        have r3 : U ≤ cA - P - M := Nat.le_trans r1 r2
        have hin : VV.inI ⟨3, 0, ⟨X.toArray⟩⟩ := ⟨by show (-9223372036854775808 : Int) ≤ 0; decide, by show (0 : Int) < 9223372036854775808; decide⟩
        have KGd := refvgood_any 3 0 ⟨X.toArray⟩ (by decide) (by decide)
        have HHn := Lib.hid hH3
        clear hH2 hzi hU hSU hT hH3 e3
        go_wp2_with fail
        refine (KZ _).mono ?_
        rintro e w1 ⟨rfl, rfl⟩
        clear KZ
        go_wp2_with fail
        refine (KGd _).mono ?_
        rintro e w3 ⟨rfl, hb3⟩
        have hbz : Below wr.heap.size wr w3 := ((Below.refl _ _).alloc (Nat.le_refl _) _).trans (hb3.mono (show wr.heap.size ≤ _ by simp))
        obtain ⟨k1, k2, k3⟩ := (C3.new wr (.int .i64 3) (.int .i64 0) (.string ⟨X.toArray⟩) 99).keep hb3 (by simp)
        have HO3 := Lib.hid (HO.out.next hbz)
        clear hb3 hbz KGd
        cases hgd : goodV 3 0 ⟨X.toArray⟩
        · have hst := HStop.out (fun x r h hi e => stop_G h hi e (by rw [hf]; exact hgd))
          go_wp2_with fail
          go_ret2
          exact ⟨⟨_, .inr ⟨hst, rfl, rfl⟩⟩, HO3.out.2⟩
        · obtain ⟨v', w', r, HO4⟩ := HAP.out _ _ ⟨3, 0, ⟨X.toArray⟩⟩ HO3.out
          have R1 := Lib.hid r
          have HO5 := Lib.hid HO4
          have HG2 : Hid (∀ x ∈ acc ++ [⟨3, 0, ⟨X.toArray⟩⟩], VV.good x = true ∧ VV.inI x) := Lib.hid (good_snoc HG.out hgd hin)
          have HK2 := HNext.out
          rw [hf] at HK2
          have HK3 := Lib.hid HK2
          clear HO3 r HO4 HAP HNext HStop HG HO HK2
          go_wp2_with (at_builtin; refine wpList_append_run rfl _ _ 79 rfl rfl rfl (R1.out _) ?_)
          go_roundw
          case rel => exact ⟨i + 1, _, _, _, _, _, A3, by go_num, rfl, rfl, hlt, Nat.sub_le_sub_right r2 U, Nat.le_trans (Nat.sub_le _ _) (Nat.le_trans (Nat.sub_le _ _) hm1), by rw [List.length_append, hal]; rfl, hl3, HO5, HK3, HG2, HHn⟩
          case measure => simp [RowKit.intOf]; omega
      · have hf := first_num_eq (k := 4) hK (by omega)
        rw [hP] at hf
        have hl1 : (rest.drop P).length = m - P := by rw [List.length_drop, hrl]
        have hm1 : m - P ≤ n := Nat.le_trans (Nat.sub_le _ _) hmn
        have KG2 := rget_below hH1 (by rw [hl1]; exact le_five hm1 HL.out) _ (HO.out.2.alloc HO.out.2.size (.cells #[.int .i64 4, .int .i64 0, .string ⟨#[]⟩] 99))
        have hRB2 := getN_bound (rest.drop P)
        have hSM := fun x r (h : VV.good x = true) hi e => stop_M (x := x) (r := r) (rest := rest) h hi e (by rw [hK]; decide)
        rw [hP] at hSM
        obtain ⟨Q, hQ⟩ : ∃ Q, getN (rest.drop P) = Q := ⟨_, rfl⟩
        obtain ⟨U, M⟩ := Q
        rw [hQ] at hf KG2 hRB2 hSM
        rw [hl1] at hRB2
        simp only at hf KG2 hRB2 hSM
        clear hP0 hRB hK4 hK hP HH
        go_wp2_with fail
        refine KG.mono ?_
        rintro e w1 ⟨rfl, rfl⟩
        clear KG
        go_wp2_with fail
        refine KG2.mono ?_
        rintro e w1 ⟨rfl, rfl⟩
        clear KG2
        by_cases hM : M = 0
        · have t2 := beq_cast hM
          have hst := HStop.out (fun x r h hi e => hSM x r h hi e hM)
          have HBA := Lib.hid (HO.out.2.alloc HO.out.2.size (.cells #[.int .i64 4, .int .i64 0, .string ⟨#[]⟩] 99))
          go_wp2_with fail
          go_ret2
          exact ⟨⟨_, .inr ⟨hst, rfl, rfl⟩⟩, HBA.out⟩
        have t2 := bne_cast hM
        obtain ⟨A2, if2, if2', hH2⟩ := cut_ahead hH1 hRB2.1
        rw [List.drop_drop] at hH2
        have hl2 : (rest.drop (P + M)).length = m - P - M := by rw [List.length_drop, hrl]; exact Nat.sub_add_eq _ _ _
        have q0 : (0 : Int) ≤ (M : Int) := Int.natCast_nonneg M
        have q1 := hRB2.1
        have q2 : m - P ≤ cA - P := Nat.sub_le_sub_right hmc P
        have KZ := fun w => refZag_any U w hRB2.2
        have hzi := zag_inI U hRB2.2
        generalize zagN U = Z at *
        clear hM hRB2 hH1 hl1 if1 if1' hSM
        have hin : VV.inI ⟨4, Z, ⟨#[]⟩⟩ := hzi
        have KGd := refvgood_any 4 Z ⟨#[]⟩ hzi.1 hzi.2
        have HHn := Lib.hid hH2
        clear hH2 hzi
        go_wp2_with fail
        refine (KZ _).mono ?_
        rintro e w1 ⟨rfl, rfl⟩
        clear KZ
        go_wp2_with fail
        refine (KGd _).mono ?_
        rintro e w3 ⟨rfl, hb3⟩
        have hbz : Below wr.heap.size wr w3 := ((Below.refl _ _).alloc (Nat.le_refl _) _).trans (hb3.mono (show wr.heap.size ≤ _ by simp))
        obtain ⟨k1, k2, k3⟩ := (C3.new wr (.int .i64 4) (.int .i64 Z) (.string ⟨#[]⟩) 99).keep hb3 (by simp)
        have HO3 := Lib.hid (HO.out.next hbz)
        clear hb3 hbz KGd
        cases hgd : goodV 4 Z ⟨#[]⟩
        · have hst := HStop.out (fun x r h hi e => stop_G h hi e (by rw [hf]; exact hgd))
          go_wp2_with fail
          go_ret2
          exact ⟨⟨_, .inr ⟨hst, rfl, rfl⟩⟩, HO3.out.2⟩
        · obtain ⟨v', w', r, HO4⟩ := HAP.out _ _ ⟨4, Z, ⟨#[]⟩⟩ HO3.out
          have R1 := Lib.hid r
          have HO5 := Lib.hid HO4
          have HG2 : Hid (∀ x ∈ acc ++ [⟨4, Z, ⟨#[]⟩⟩], VV.good x = true ∧ VV.inI x) := Lib.hid (good_snoc HG.out hgd hin)
          have HK2 := HNext.out
          rw [hf] at HK2
          have HK3 := Lib.hid HK2
          clear HO3 r HO4 HAP HNext HStop HG HO HK2
          go_wp2_with (at_builtin; refine wpList_append_run rfl _ _ 79 rfl rfl rfl (R1.out _) ?_)
          go_roundw
          case rel => exact ⟨i + 1, _, _, _, _, _, A2, by go_num, rfl, rfl, hlt, Nat.sub_le_sub_right q2 M, Nat.le_trans (Nat.sub_le _ _) hm1, by rw [List.length_append, hal]; rfl, hl2, HO5, HK3, HG2, HHn⟩
          case measure => simp [RowKit.intOf]; omega
    · have hei : i = N := end_eq hiN hlt
      have hlo := HKE.out _ _ HK.out hb64 (hal.trans hei) HG.out
      have HBy := Lib.hid (fun (w0 : World) (h0 : OutV w w0 v acc) => refvbytes_any (holdsV_of_owns h0.1) (by rw [hal, hei]; exact Nat.le_trans HN.out (Nat.le_trans HL.out (by decide))) (fun x hx => (HG.out x hx).2))
      obtain ⟨SL, hSL⟩ : ∃ SL, (⟨l.toArray⟩ : ByteArray) = SL := ⟨_, rfl⟩
      obtain ⟨SA, hSA⟩ : ∃ SA, (⟨(bytesV acc).toArray⟩ : ByteArray) = SA := ⟨_, rfl⟩
      have hse := str_eq (bytesV acc) l
      rw [hSL] at HS
      rw [hSL, hSA] at hse
      obtain ⟨bq, hbq⟩ : ∃ bq, decide (bytesV acc = l) = bq := ⟨_, rfl⟩
      rw [hbq] at hse
      have HBQ := Lib.hid hbq
      have HLO := Lib.hid hlo
      clear hbq hlo
      clear hei HK HG HKN HKS HKE hal hrl hmn hmc hiN HH
      go_wp2_with fail
      have HOd := Lib.hid (HO.out.next (below_drew_v wr))
      have KB := HBy.out wr.drew HOd.out
      refine wp_region_mix (fun W => (convert 22 9 (.slice (some ad) n c)).run Tryz.prog W = .ok (.string SL) W) 6 [(true, 0), (true, 3), (true, 4), (false, 1), (false, 2), (true, 5)] (by kernel_rfl) (by decide +kernel) rfl (by decide +kernel) (HS.out _ HOd.out.2) ?_
      iterate 3
        refine wpMix_take (v := ?_) rfl rfl ?_ ?_
        rotate_left
        · (intro W hW; (try dsimp only at hW); go_simp) <;> with_reducible rfl
        simp only [Act.put, List.setIfInBounds_toArray, List.set_cons_zero, List.set_cons_succ]
      refine wpMix_run rfl ?_
      intro K hK
      go_wp2_with fail
      refine KB.mono ?_
      rintro e w2 ⟨v2, rfl, ho, hb2⟩
      have HO2 := HOd.out.next hb2
      have hO : Holds w2 v2 (u8s (bytesV acc)) := Holds.of_row (by rw [u8s_len]; exact ho)
      have KS2 := toStr hO
      rw [hSA] at KS2
      have S2 := HS.out w2 HO2.2
      have H2 := Lib.hid HO2
      clear KB HBy ho hb2 HO2 hO HS HOd HO
      go_wp2_with fail
      refine hK.out _ _ (fun _ => S2) ?_
      clear hK K
      refine wpMix_run rfl ?_
      intro K hK
      go_wp2_with fail
      refine hK.out _ _ (fun _ => S2) ?_
      clear hK K
      iterate 1
        refine wpMix_take (v := ?_) rfl rfl ?_ ?_
        rotate_left
        · (intro W hW; (try dsimp only at hW); go_simp) <;> with_reducible rfl
        simp only [Act.put, List.setIfInBounds_toArray, List.set_cons_zero, List.set_cons_succ]
      refine wpMix_nil ?_
      have HOV := Lib.hid H2.out.1
      cases bq
      · have he : ¬ bytesV acc = l := of_decide_eq_false HBQ.out
        have hlo := HLO.out
        rw [if_neg he] at hlo
        clear he hse
        go_wp2_with fail
        go_ret2
        exact ⟨⟨_, .inr ⟨hlo, rfl, rfl⟩⟩, H2.out.2⟩
      · have he : bytesV acc = l := of_decide_eq_true HBQ.out
        have hlo := HLO.out
        rw [if_pos he] at hlo
        clear he hse
        go_wp2_with fail
        go_ret2
        exact ⟨⟨_, .inl ⟨acc, hlo, HOV.out, rfl⟩⟩, H2.out.2⟩
theorem refvload_any {w : World} {v : Value} {l : List UInt8} (H : Holds w v (u8s l)) (hl : l.length ≤ 1000000) : Calls Tryz.prog 32 #[v] w (LoadP w l) :=
  (refvload_own H hl).mono fun _ _ ⟨⟨v', h⟩, hb⟩ => ⟨⟨v', h.imp (fun ⟨vs, a, b, c⟩ => ⟨vs, a, holdsV_of_owns b, c⟩) id⟩, hb⟩
end Go.Proofs.YtehfoaicohnpfaaGreatDoor
/- Contract of the document's Load. Conditions: at most 1000000 bytes. -/
set_option maxRecDepth 100000
namespace Go.Proofs.YtehfoaicohnpfaaGreatDoor
open Go.RowKit Go.Maps Go.Sort Go.Lib

/-- what comes out of the document's Load -/
def RLoadP (w : World) (l : List UInt8) (e : Ending) (w' : World) : Prop := Below w.heap.size w w' ∧
  ((∃ x a b c d, loadF l = some x ∧ e = .returned (.tuple #[recV x a b c d, .int .i64 0]) ∧ RecOk w.heap.size x a b c d w') ∨
   (loadF l = none ∧ e = .returned (.tuple #[.agg #[.int .i64 0, .string ⟨#[]⟩, .slice none 0 0, .string ⟨#[]⟩, .string ⟨#[]⟩, .slice none 0 0, .slice none 0 0, .string ⟨#[]⟩, .slice none 0 0], .int .i64 8])))
def rv0 : RV := ⟨0, nilS, [], nilS, nilS, [], [], nilS, []⟩
section
variable {w W : World} {s : RS} {x : RV} {a b c d : Value}
/-- the result's block, stored into -/
theorem LdQ.done (h : LdQ w s x a b c d W) (v0 v1 v2 v3 v4 v5 v6 v7 v8 : Value) :
    (W.cell? ⟨w.heap.size, 0, none⟩ = some (.int .i64 0) ∧ W.cell? ⟨w.heap.size, 1, none⟩ = some (.string ⟨#[]⟩) ∧ W.cell? ⟨w.heap.size, 2, none⟩ = some (.slice none 0 0) ∧ W.cell? ⟨w.heap.size, 3, none⟩ = some (.string ⟨#[]⟩) ∧ W.cell? ⟨w.heap.size, 4, none⟩ = some (.string ⟨#[]⟩) ∧ W.cell? ⟨w.heap.size, 5, none⟩ = some (.slice none 0 0) ∧ W.cell? ⟨w.heap.size, 6, none⟩ = some (.slice none 0 0) ∧ W.cell? ⟨w.heap.size, 7, none⟩ = some (.string ⟨#[]⟩) ∧ W.cell? ⟨w.heap.size, 8, none⟩ = some (.slice none 0 0) ∧ ∀ j, W.frozen? ⟨w.heap.size, j, none⟩ = false) ∧
    ((set9 W w.heap.size v0 v1 v2 v3 v4 v5 v6 v7 v8).heap[w.heap.size]? = some (.cells #[v0, v1, v2, v3, v4, v5, v6, v7, v8] 44 (0, 0))) ∧
    Below w.heap.size w (set9 W w.heap.size v0 v1 v2 v3 v4 v5 v6 v7 v8) ∧ RecOk w.heap.size x a b c d (set9 W w.heap.size v0 v1 v2 v3 v4 v5 v6 v7 v8) := by
  obtain ⟨g1, g2⟩ := set_nine h.res v0 v1 v2 v3 v4 v5 v6 v7 v8
  exact ⟨nine_cells h.res, g1, set9_below h.bel (Nat.le_refl _) _ _ _ _ _ _ _ _ _, h.ok.of_block h.res (by decide) (by decide) (by decide) (by decide) (by decide) g2⟩
theorem RecOk.lens {B : Nat} (h : RecOk B x a b c d W) : ∀ r ∈ x.ws, r.length ≤ 9223372036854775807 := fun r hr => by
  obtain ⟨vs, hv, hl, hw⟩ := h.ws
  obtain ⟨i, hi⟩ := List.getElem?_of_mem hr
  have hil : i < vs.length := by rw [hl]; exact (List.getElem?_eq_some_iff.1 hi).1
  obtain ⟨_, _, _, h1, h2⟩ := ownsRow_form (hw i _ r (List.getElem?_eq_getElem hil) hi)
  unfold maxLen at h2
  omega
end
theorem bod_in {b : List UInt8} (hl : b.length ≤ 1000000) (hk : ¬ ((numF (b, false)).1 < 1 ∨ 3 < (numF (b, false)).1)) (hf : (bodF (numF (b, false)).1 (numF (b, false)).2).2.2 = false) : (bodF (numF (b, false)).1 (numF (b, false)).2).1.inI := by
  cases e : pNum b with
  | none => rw [num_none e] at hk; simp at hk
  | some q =>
    obtain ⟨z, q⟩ := q
    obtain ⟨e1, e2⟩ := num_some e
    have hu := (getN_bound b).2
    have hq := numF_len (b, false)
    rw [e1] at hq hk hf ⊢
    simp only at hq hk hf ⊢
    have hql : q.length ≤ 1000000 := by omega
    have hc := iN_cases _ hu
    rw [← e2] at hc
    generalize (getN b).1 = u at *
    have hz : z = (u : Int) := by omega
    have hR : ∀ y r, qRead b = some (y, r) → y.inI := fun y r h => (qRead_some hl h).2
    unfold qRead at hR
    rw [e] at hR
    simp only [Option.bind_some] at hR
    unfold bodF at hf ⊢
    by_cases h1 : u = 1
    · rw [if_pos h1] at hf ⊢
      rw [if_pos (show z = 1 by omega)] at hR
      cases e3 : qTab q with
      | none => rw [tab_no hql e3] at hf; cases hf
      | some t =>
        obtain ⟨y, r⟩ := t
        rw [tab_yes hql e3]
        exact hR _ r (by rw [e3]; rfl)
    · rw [if_neg h1] at hf ⊢
      rw [if_neg (show ¬ z = 1 by omega)] at hR
      by_cases h2 : u = 2
      · rw [if_pos h2] at hf ⊢
        rw [if_pos (show z = 2 by omega)] at hR
        cases e3 : qRol q with
        | none => rw [rol_no hql e3] at hf; cases hf
        | some t =>
          obtain ⟨y, r⟩ := t
          rw [rol_yes hql e3]
          exact hR _ r (by rw [e3]; rfl)
      · rw [if_neg h2] at hf ⊢
        rw [if_neg (show ¬ z = 2 by omega), if_pos (show z = 3 by omega)] at hR
        cases e3 : qBat q with
        | none => rw [bat_no hql e3] at hf; cases hf
        | some t =>
          obtain ⟨y, r⟩ := t
          rw [bat_yes hql e3]
          exact hR _ r (by rw [e3]; rfl)
theorem LdQ.start {w : World} {pa : Option Addr} {n k : Nat} {l : List UInt8} (H : Holds w (.slice pa n k) (u8s l)) :
    LdQ w (l, false) rv0 (.slice none 0 0) (.slice none 0 0) (.slice none 0 0) (.slice none 0 0) (((w.alloc (.cells #[.int .i64 0, .string ⟨#[]⟩, .slice none 0 0, .string ⟨#[]⟩, .string ⟨#[]⟩, .slice none 0 0, .slice none 0 0, .string ⟨#[]⟩, .slice none 0 0] 44)).alloc (.cells #[.slice pa n k, .bool false] 73)).alloc (.cells #[.int .i64 0, .string ⟨#[]⟩, .slice none 0 0, .string ⟨#[]⟩, .string ⟨#[]⟩, .slice none 0 0, .slice none 0 0, .string ⟨#[]⟩, .slice none 0 0] 44)) := by
  have b1 := below_o w (.cells #[.int .i64 0, .string ⟨#[]⟩, .slice none 0 0, .string ⟨#[]⟩, .string ⟨#[]⟩, .slice none 0 0, .slice none 0 0, .string ⟨#[]⟩, .slice none 0 0] 44)
  have b2 := below_o (w.alloc (.cells #[.int .i64 0, .string ⟨#[]⟩, .slice none 0 0, .string ⟨#[]⟩, .string ⟨#[]⟩, .slice none 0 0, .slice none 0 0, .string ⟨#[]⟩, .slice none 0 0] 44)) (.cells #[.slice pa n k, .bool false] 73)
  have b3 := below_o ((w.alloc (.cells #[.int .i64 0, .string ⟨#[]⟩, .slice none 0 0, .string ⟨#[]⟩, .string ⟨#[]⟩, .slice none 0 0, .slice none 0 0, .string ⟨#[]⟩, .slice none 0 0] 44)).alloc (.cells #[.slice pa n k, .bool false] 73)) (.cells #[.int .i64 0, .string ⟨#[]⟩, .slice none 0 0, .string ⟨#[]⟩, .string ⟨#[]⟩, .slice none 0 0, .slice none 0 0, .string ⟨#[]⟩, .slice none 0 0] 44)
  have s1 : (w.alloc (.cells #[.int .i64 0, .string ⟨#[]⟩, .slice none 0 0, .string ⟨#[]⟩, .string ⟨#[]⟩, .slice none 0 0, .slice none 0 0, .string ⟨#[]⟩, .slice none 0 0] 44)).heap.size = w.heap.size + 1 := by simp
  have s2 : ((w.alloc (.cells #[.int .i64 0, .string ⟨#[]⟩, .slice none 0 0, .string ⟨#[]⟩, .string ⟨#[]⟩, .slice none 0 0, .slice none 0 0, .string ⟨#[]⟩, .slice none 0 0] 44)).alloc (.cells #[.slice pa n k, .bool false] 73)).heap.size = w.heap.size + 2 := by simp
  refine ⟨(b1.trans (b2.mono b1.size)).trans (b3.mono (Nat.le_trans b1.size b2.size)), ⟨pa, n, k, ?_, ((H.below b1).below b2).below b3, fun ad e hn => ?_⟩, ?_, ?_, ⟨nilRow _ _ _ _, nilRow _ _ _ _, nilRow _ _ _ _, RowsOk.nil _ _⟩⟩
  · rw [b3.block _ (by omega), ← s1]; exact heap_alloc_new _ _
  · subst e
    have hc := H.cell (j := 0) (u := (u8s l)[0]'(by rw [H.len.1]; exact hn)) (List.getElem?_eq_getElem _)
    have := World.block_lt_of_cell? w _ hc
    rw [Addr.add_block] at this
    omega
  · rw [b3.block _ (by omega), b2.block _ (by omega)]; exact heap_alloc_new _ _
  · rw [← s2]; exact heap_alloc_new _ _
end Go.Proofs.YtehfoaicohnpfaaGreatDoor
