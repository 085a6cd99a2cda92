/- The program's reader of records: numbers, counts and texts. Conditions: at most 1000000 bytes. -/
import Derived.Test.YtehfoaicohnpfaaGreatDoorRecQ
import Derived.Test.YtehfoaicohnpfaaGreatDoorReadFrame
import Derived.Test.YtehfoaicohnpfaaGreatDoorVbRead
import Derived.Test.YtehfoaicohnpfaaGreatDoorThings
set_option maxRecDepth 100000
namespace Go.Proofs.YtehfoaicohnpfaaGreatDoor
open Go.RowKit Go.Maps Go.Sort Go.Lib

/-- what has not been read yet -/
def SrcAt (w : World) (p : Nat) (l : List UInt8) : Prop := ∃ a n c, w.heap[p]? = some (.cells #[.slice a n c] 110 (0, 0)) ∧ Holds w (.slice a n c) (u8s l) ∧ ∀ ad, a = some ad → 0 < n → ad.block < p
/-- how a reader ends: with what it reads, or in a panic -/
def OutS {α : Type} (p : Nat) (w : World) (R : Option (α × List UInt8)) (ok : α → Value → World → Prop) (e : Ending) (w' : World) : Prop :=
  Else (fun k => k = p) w w' ∧ ((∃ x l' v, R = some (x, l') ∧ e = .returned v ∧ ok x v w' ∧ SrcAt w' p l') ∨ (R = none ∧ e = .panicked (errP 8)))
theorem OutS.no {α : Type} {p : Nat} {w w' : World} {ok : α → Value → World → Prop} (h : Else (fun k => k = p) w w') : OutS p w none ok (.panicked (errP 8)) w' := ⟨h, .inr ⟨rfl, rfl⟩⟩
theorem OutS.yes {α : Type} {p : Nat} {w w' : World} {ok : α → Value → World → Prop} {x : α} {l : List UInt8} {v : Value} (h : Else (fun k => k = p) w w') (h2 : ok x v w') (h3 : SrcAt w' p l) : OutS p w (some (x, l)) ok (.returned v) w' := ⟨h, .inl ⟨x, l, v, rfl, rfl, h2, h3⟩⟩
theorem SrcAt.lt {w : World} {p : Nat} {l : List UInt8} (h : SrcAt w p l) : p < w.heap.size := by obtain ⟨a, n, c, h1, _⟩ := h; exact lt_of_heap h1
/-- what is not in block p is held as before -/
theorem Holds.else' {w w' : World} {p : Nat} {a : Option Addr} {n c : Nat} {xs : List Value} (h : Holds w (.slice a n c) xs) (hp : ∀ ad, a = some ad → 0 < n → ad.block < p) (he : Else (fun k => k = p) w w') : Holds w' (.slice a n c) xs := by
  have hn := h.len.1
  obtain ⟨a', c', e, h1, h2⟩ := h
  simp only [Value.slice.injEq] at e
  obtain ⟨rfl, rfl, rfl⟩ := e
  refine ⟨a, c, rfl, h1, ?_⟩
  rcases h2 with h2 | ⟨ad, rfl, h3⟩
  · exact .inl h2
  · refine .inr ⟨ad, rfl, fun j u hj => ?_⟩
    have hc := h3 j u hj
    have hb := World.block_lt_of_cell? w _ hc
    rw [Addr.add_block] at hb
    have hpos : 0 < xs.length := by have := (List.getElem?_eq_some_iff.1 hj).1; omega
    rw [World.cell?_of_block (w := w) (by rw [Addr.add_block]; exact he.block _ hb (Nat.ne_of_lt (hp ad rfl hpos)))]
    exact hc
theorem else_set {w : World} {p j : Nat} (v : Value) : Else (fun k => k = p) w (w.setCell ⟨p, j, none⟩ v) := Else.setCell (O := fun k => k = p) (Else.refl _ w) (.inl rfl) v
theorem SrcAt.next {w w' : World} {p : Nat} {l : List UInt8} (h : SrcAt w p l) (hb : Below w.heap.size w w') : SrcAt w' p l := by
  obtain ⟨a, n, c, h1, h2, h3⟩ := h
  exact ⟨a, n, c, (hb.block p (lt_of_heap h1)).trans h1, h2.below hb, h3⟩
theorem SrcAt.frame {w w' : World} {p : Nat} {l : List UInt8} (h : SrcAt w p l) (hk : ∀ k, k ≤ p → w'.heap[k]? = w.heap[k]?) : SrcAt w' p l := by
  obtain ⟨a, n, c, h1, h2, h3⟩ := h
  refine ⟨a, n, c, (hk p (Nat.le_refl _)).trans h1, ?_, h3⟩
  have hn := h2.len.1
  obtain ⟨a', c', e, h4, h5⟩ := h2
  simp only [Value.slice.injEq] at e
  obtain ⟨rfl, rfl, rfl⟩ := e
  refine ⟨a, c, rfl, h4, ?_⟩
  rcases h5 with h5 | ⟨ad, rfl, h6⟩
  · exact .inl h5
  · refine .inr ⟨ad, rfl, fun j u hj => ?_⟩
    have hpos : 0 < (u8s l).length := by have := (List.getElem?_eq_some_iff.1 hj).1; omega
    rw [World.cell?_of_block (w := w) (by rw [Addr.add_block]; exact hk _ (Nat.le_of_lt (h3 ad rfl hpos)))]
    exact h6 j u hj
theorem SrcAt.drewN {w : World} {p : Nat} {l : List UInt8} (h : SrcAt w p l) (q : Nat) : SrcAt (w.drewN q) p l := h.next (below_drewN w q)
theorem Else.of_drewN {O : Nat → Prop} {w w' : World} {q : Nat} (h : Else O (w.drewN q) w') : Else O w w' := ⟨h.os, h.tape, h.output, h.size, h.block⟩
/-- the source behind a store of what is left -/
theorem SrcAt.store {w : World} {p : Nat} {a a' : Option Addr} {n c n' c' : Nat} {l : List UInt8} (h1 : w.heap[p]? = some (.cells #[.slice a n c] 110 (0, 0))) (h2 : Holds w (.slice a' n' c') (u8s l)) (h3 : ∀ ad, a' = some ad → 0 < n' → ad.block < p) :
    SrcAt (w.setCell ⟨p, 0, none⟩ (.slice a' n' c')) p l :=
  ⟨a', n', c', heap_set h1 _, h2.else' h3 (else_set _), h3⟩
theorem cut_block {ad A : Addr} {bc U : Nat} (h : (if bc = U then ad else ad.add U) = A) : A.block = ad.block := by
  split at h
  · rw [← h]
  · rw [← h, Addr.add_block]
set_option maxHeartbeats 800000 in
theorem num_at {w : World} {p : Nat} {l : List UInt8} (h : SrcAt w p l) (hl : l.length ≤ 1000000) :
    Calls Tryz.prog 54 #[.pointer (some ⟨p, 0, none⟩)] w (OutS p w (pNum l) fun n v _ => v = .int .i64 n) := by
  obtain ⟨a, n, c, h1, h2, h3⟩ := h
  have hn := h2.len
  rw [u8s_len] at hn
  obtain ⟨rfl, hnc⟩ := hn
  have KG := Get_any h2 (by omega)
  have hG := getN_bound l
  have c0 : w.cell? ⟨p, 0, none⟩ = some (.slice a l.length c) := by rw [cell_of_row _ _ _ _ _ _ h1]; rfl
  have f0 := free_of_row h1 0
  by_cases hm : (getN l).2 = 0
  · have e : pNum l = none := by unfold pNum; rw [if_pos hm]
    rw [e]
    rw [hm] at KG
    have FIN : Hid (OutS (α := Int) p w none (fun n v _ => v = .int .i64 n) (.panicked (errP 8)) w) := Lib.hid (OutS.no (Else.refl _ _))
    generalize (getN l).1 = u at *
    generalize l.length = m at *
    clear h1 h2 h3 hG hl e hm hnc
    go_enter Tryz.func54, Tryz.ntmps54
    go_wp2_with fail
    refine KG.mono ?_
    rintro e w1 ⟨rfl, rfl⟩
    go_wp2_with fail
    simp only [bodyPost]
    exact ⟨trivial, FIN.out⟩
  · have e : pNum l = some (iN (getN l).1, l.drop (getN l).2) := by unfold pNum; rw [if_neg hm]
    rw [e]
    have hne : 0 < (u8s l).length := by
      rw [u8s_len]
      rcases Nat.eq_zero_or_pos l.length with g | g
      · omega
      · exact g
    obtain ⟨ad, rfl⟩ := h2.ptr (by rw [u8s_len] at hne; exact hne)
    obtain ⟨A, if1, if2, hH⟩ := cut_ahead h2 hG.1
    have hA := cut_block if1
    have hp : ∀ x, some A = some x → 0 < l.length - (getN l).2 → x.block < p := fun x ex hx => by cases ex; rw [hA]; exact h3 ad rfl (by omega)
    have FIN : Hid (OutS p w (some (iN (getN l).1, l.drop (getN l).2)) (fun n v _ => v = .int .i64 n) (.returned (.int .i64 (iN (getN l).1))) (w.setCell ⟨p, 0, none⟩ (.slice (some A) (l.length - (getN l).2) (c - (getN l).2)))) :=
      Lib.hid (OutS.yes (else_set _) rfl (SrcAt.store h1 hH hp))
    have hw : IntKind.i64.wrap ((getN l).1 : Int) = iN (getN l).1 := rfl
    have hb0 : (0 : Int) ≤ ((getN l).2 : Int) := Int.natCast_nonneg _
    have hb1 : ((getN l).2 : Int) ≤ (l.length : Int) := Int.ofNat_le.2 hG.1
    have t0 : (((getN l).2 : Int) == 0) = false := bne_cast hm
    generalize iN (getN l).1 = z at *
    generalize (getN l).1 = u at *
    generalize (getN l).2 = m at *
    have hb2 : (l.length : Int) ≤ (c : Int) := Int.ofNat_le.2 hnc
    generalize l.length = n at *
    clear h1 h2 h3 hG hl e hm hnc hH hA hp hne
    go_enter Tryz.func54, Tryz.ntmps54
    go_wp2_with fail
    refine KG.mono ?_
    rintro e w1 ⟨rfl, rfl⟩
    go_wp2_with fail
    go_ret
    exact FIN.out
theorem check_no {n most : Int} (h : n < 0 ∨ most < n) (w : World) : Calls Tryz.prog 64 #[.int .i64 n, .int .i64 most] w fun e w' => e = .panicked (errP 8) ∧ w' = w := by
  by_cases h0 : n < 0
  · have t0 : decide (n < 0) = true := decide_eq_true h0
    clear h h0
    go_enter Tryz.func64, Tryz.ntmps64
    go_wp2_with fail
    simp [bodyPost, errP]
  · have h1 : most < n := h.resolve_left h0
    have t0 : decide (n < 0) = false := decide_eq_false h0
    have t1 : decide (most < n) = true := decide_eq_true h1
    clear h h0 h1
    go_enter Tryz.func64, Tryz.ntmps64
    go_wp2_with fail
    simp [bodyPost, errP]
theorem check_yes {n most : Int} (h : ¬ (n < 0 ∨ most < n)) (w : World) : Calls Tryz.prog 64 #[.int .i64 n, .int .i64 most] w fun e w' => e = .returned (.tuple #[]) ∧ w' = w := by
  have t0 : decide (n < 0) = false := decide_eq_false (fun g => h (.inl g))
  have t1 : decide (most < n) = false := decide_eq_false (fun g => h (.inr g))
  clear h
  go_enter Tryz.func64, Tryz.ntmps64
  go_wp2_with fail
  go_end0
  simp
theorem OutS.of {α : Type} {p : Nat} {w w' : World} {R : Option (α × List UInt8)} {ok : α → Value → World → Prop} {e : Ending} (h : OutS p w R ok e w') :
    (∃ x l', R = some (x, l') ∧ ∃ v, e = .returned v ∧ ok x v w' ∧ SrcAt w' p l' ∧ Else (fun k => k = p) w w') ∨ (R = none ∧ e = .panicked (errP 8) ∧ Else (fun k => k = p) w w') := by
  obtain ⟨he, ⟨x, l', v, h1, h2, h3, h4⟩ | ⟨h1, h2⟩⟩ := h
  · exact .inl ⟨x, l', h1, v, h2, h3, h4, he⟩
  · exact .inr ⟨h1, h2, he⟩
/-- a reader's number, by how it ends -/
theorem num_cases {w : World} {p : Nat} {l : List UInt8} (h : SrcAt w p l) (hl : l.length ≤ 1000000) :
    (pNum l = none ∧ Calls Tryz.prog 54 #[.pointer (some ⟨p, 0, none⟩)] w fun e w' => e = .panicked (errP 8) ∧ Else (fun k => k = p) w w') ∨
    (∃ n r, pNum l = some (n, r) ∧ r.length ≤ 1000000 ∧ -9223372036854775808 ≤ n ∧ n < 9223372036854775808 ∧ Calls Tryz.prog 54 #[.pointer (some ⟨p, 0, none⟩)] w fun e w' => e = .returned (.int .i64 n) ∧ SrcAt w' p r ∧ Else (fun k => k = p) w w') := by
  have K := num_at h hl
  cases e : pNum l with
  | none =>
    refine .inl ⟨rfl, K.mono fun e' w' ho => ?_⟩
    rcases ho.of with ⟨x, l', h1, _⟩ | ⟨_, h2, h3⟩
    · rw [e] at h1; cases h1
    · exact ⟨h2, h3⟩
  | some q =>
    obtain ⟨n, r⟩ := q
    obtain ⟨_, _, _, _, hr, hn⟩ := pNum_some e
    refine .inr ⟨n, r, rfl, by omega, hn.1, hn.2, K.mono fun e' w' ho => ?_⟩
    rcases ho.of with ⟨x, l', h1, v, h2, h3, h4, h5⟩ | ⟨h1, _⟩
    · rw [e] at h1
      cases h1
      subst h2 h3
      exact ⟨rfl, h4, h5⟩
    · rw [e] at h1; cases h1
set_option maxHeartbeats 800000 in
theorem count_at {w : World} {p : Nat} {l : List UInt8} (h : SrcAt w p l) (hl : l.length ≤ 1000000) (most : Nat) :
    Calls Tryz.prog 63 #[.pointer (some ⟨p, 0, none⟩), .int .i64 (most : Int)] w (OutS p w (pCnt most l) fun n v _ => v = .int .i64 (n : Int)) := by
  rcases num_cases h hl with ⟨e, K⟩ | ⟨n, r, e, _, _, _, K⟩
  · have e2 : pCnt most l = none := by unfold pCnt; rw [e]; rfl
    rw [e2]
    clear h hl e e2
    go_enter Tryz.func63, Tryz.ntmps63
    go_wp2_with fail
    refine K.mono ?_
    rintro e w1 ⟨rfl, he⟩
    go_wp2_with fail
    simp only [bodyPost]
    exact ⟨trivial, OutS.no he⟩
  · have e2 : pCnt most l = if n < 0 ∨ (most : Int) < n then none else some (n.toNat, r) := by unfold pCnt; rw [e]; rfl
    rw [e2]
    clear h hl e e2
    by_cases hb : n < 0 ∨ (most : Int) < n
    · rw [if_pos hb]
      have KC := check_no hb
      clear hb
      go_enter Tryz.func63, Tryz.ntmps63
      go_wp2_with fail
      refine K.mono ?_
      rintro e w1 ⟨rfl, hs, he⟩
      go_wp2_with fail
      refine (KC _).mono ?_
      rintro e w2 ⟨rfl, rfl⟩
      go_wp2_with fail
      simp only [bodyPost]
      exact ⟨trivial, OutS.no he⟩
    · rw [if_neg hb]
      have KC := check_yes hb
      have hz : n = (n.toNat : Int) := by omega
      have HZ := Lib.hid hz
      clear hb hz
      go_enter Tryz.func63, Tryz.ntmps63
      go_wp2_with fail
      refine K.mono ?_
      rintro e w1 ⟨rfl, hs, he⟩
      go_wp2_with fail
      refine (KC _).mono ?_
      rintro e w2 ⟨rfl, rfl⟩
      go_wp2_with fail
      go_ret
      exact OutS.yes he (show Value.int .i64 n = Value.int .i64 (n.toNat : Int) from congrArg (Value.int .i64) HZ.out) hs
set_option maxHeartbeats 800000 in
theorem text_at {w : World} {p : Nat} {l : List UInt8} (h : SrcAt w p l) (hl : l.length ≤ 1000000) :
    Calls Tryz.prog 57 #[.pointer (some ⟨p, 0, none⟩)] w (OutS p w (pTxt l) fun s v _ => v = .string s) := by
  rcases num_cases h hl with ⟨e, K⟩ | ⟨n, r, e, hr, _, _, K⟩
  · have e2 : pTxt l = none := by unfold pTxt; rw [e]; rfl
    rw [e2]
    clear h hl e e2
    go_enter Tryz.func57, Tryz.ntmps57
    go_wp2_with fail
    refine K.mono ?_
    rintro e w1 ⟨rfl, he⟩
    go_wp2_with fail
    simp only [bodyPost]
    exact ⟨trivial, OutS.no he⟩
  · have e2 : pTxt l = if n < 0 ∨ (r.length : Int) < n then none else some (⟨(r.take n.toNat).toArray⟩, r.drop n.toNat) := by unfold pTxt; rw [e]; rfl
    rw [e2]
    clear h hl e e2
    by_cases hb : n < 0 ∨ (r.length : Int) < n
    · rw [if_pos hb]
      have KC := check_no hb
      generalize hm : r.length = m at *
      have HM := Lib.hid hm
      clear hb hm
      go_enter Tryz.func57, Tryz.ntmps57
      go_wp2_with fail
      refine K.mono ?_
      rintro e w1 ⟨rfl, hs, he⟩
      obtain ⟨a, k, c, h1, h2, h3⟩ := hs
      have hk := h2.len.1
      rw [u8s_len, HM.out] at hk
      subst hk
      have c0 : w1.cell? ⟨p, 0, none⟩ = some (.slice a m c) := by rw [cell_of_row _ _ _ _ _ _ h1]; rfl
      clear h1 h2 h3
      go_wp2_with fail
      refine (KC _).mono ?_
      rintro e w2 ⟨rfl, rfl⟩
      go_wp2_with fail
      simp only [bodyPost]
      exact ⟨trivial, OutS.no he⟩
    · rw [if_neg hb]
      have KC := check_yes hb
      obtain ⟨m, rfl⟩ : ∃ m : Nat, n = (m : Int) := ⟨n.toNat, by omega⟩
      have hm : m ≤ r.length := by omega
      rw [Int.toNat_natCast]
      have HM := Lib.hid hm
      generalize hz : r.length = z at *
      have HZ := Lib.hid hz
      clear hb hz hm
      go_enter Tryz.func57, Tryz.ntmps57
      go_wp2_with fail
      refine K.mono ?_
      rintro e w1 ⟨rfl, hs, he⟩
      obtain ⟨a, k, c, h1, h2, h3⟩ := hs
      have hk := h2.len
      rw [u8s_len, HZ.out] at hk
      obtain ⟨rfl, hzc⟩ := hk
      have c0 : w1.cell? ⟨p, 0, none⟩ = some (.slice a z c) := by rw [cell_of_row _ _ _ _ _ _ h1]; rfl
      have f0 := free_of_row h1 0
      have hT := toStr (hold_take h2 m HM.out)
      have b0 : (0 : Int) ≤ (m : Int) := Int.natCast_nonneg _
      have b1 : (m : Int) ≤ (z : Int) := Int.ofNat_le.2 HM.out
      have b2 : (z : Int) ≤ (c : Int) := Int.ofNat_le.2 hzc
      rcases a with _ | ad
      · obtain ⟨rfl, rfl⟩ : z = 0 ∧ c = 0 := by
          obtain ⟨a', c', e, _, h4⟩ := h2
          simp only [Value.slice.injEq] at e
          obtain ⟨rfl, e2, rfl⟩ := e
          rcases h4 with ⟨_, e3, e4⟩ | ⟨_, e3, _⟩
          · rw [e3] at e2; exact ⟨e2, e4⟩
          · cases e3
        obtain rfl : m = 0 := by have := HM.out; omega
        have hr0 : r = [] := List.eq_nil_of_length_eq_zero HZ.out
        subst hr0
        have FIN : Hid (OutS p w (some (⟨([].take 0).toArray⟩, List.drop 0 [])) (fun s v _ => v = .string s) (.returned (.string ⟨([].take 0).toArray⟩)) (w1.setCell ⟨p, 0, none⟩ (.slice none 0 0))) :=
          Lib.hid (OutS.yes (he.trans (else_set (.slice none 0 0)) (fun x hx => .inl hx)) rfl (SrcAt.store h1 (Holds.nil _) (fun ad e => by cases e)))
        clear h1 h2 h3 he
        go_wp2_with fail
        refine (KC _).mono ?_
        rintro e w2 ⟨rfl, rfl⟩
        go_wp2_with fail
        go_ret
        exact FIN.out
      · obtain ⟨A, if1, if2, hH⟩ := cut_ahead h2 HM.out
        have hA := cut_block if1
        have hp : ∀ x, some A = some x → 0 < z - m → x.block < p := fun x ex hx => by cases ex; rw [hA]; exact h3 ad rfl (by omega)
        have FIN : Hid (OutS p w (some (⟨(r.take m).toArray⟩, r.drop m)) (fun s v _ => v = .string s) (.returned (.string ⟨(r.take m).toArray⟩)) (w1.setCell ⟨p, 0, none⟩ (.slice (some A) (z - m) (c - m)))) :=
          Lib.hid (OutS.yes (he.trans (else_set (.slice (some A) (z - m) (c - m))) (fun x hx => .inl hx)) rfl (SrcAt.store h1 hH hp))
        clear h1 h2 h3 he hH hp hA
        go_wp2_with fail
        refine (KC _).mono ?_
        rintro e w2 ⟨rfl, rfl⟩
        go_wp2_with fail
        go_ret
        exact FIN.out
theorem txt_cases {w : World} {p : Nat} {l : List UInt8} (h : SrcAt w p l) (hl : l.length ≤ 1000000) :
    (pTxt l = none ∧ Calls Tryz.prog 57 #[.pointer (some ⟨p, 0, none⟩)] w fun e w' => e = .panicked (errP 8) ∧ Else (fun k => k = p) w w') ∨
    (∃ s r, pTxt l = some (s, r) ∧ r.length ≤ 1000000 ∧ s.size ≤ 1000000 ∧ Calls Tryz.prog 57 #[.pointer (some ⟨p, 0, none⟩)] w fun e w' => e = .returned (.string s) ∧ SrcAt w' p r ∧ Else (fun k => k = p) w w') := by
  have K := text_at h hl
  cases e : pTxt l with
  | none =>
    refine .inl ⟨rfl, K.mono fun e' w' ho => ?_⟩
    rcases ho.of with ⟨x, l', h1, _⟩ | ⟨_, h2, h3⟩
    · rw [e] at h1; cases h1
    · exact ⟨h2, h3⟩
  | some q =>
    obtain ⟨n, r⟩ := q
    obtain ⟨_, hs, hr⟩ := pTxt_some e
    refine .inr ⟨n, r, rfl, by omega, by omega, K.mono fun e' w' ho => ?_⟩
    rcases ho.of with ⟨x, l', h1, v, h2, h3, h4, h5⟩ | ⟨h1, _⟩
    · rw [e] at h1
      cases h1
      subst h2 h3
      exact ⟨rfl, h4, h5⟩
    · rw [e] at h1; cases h1
theorem cnt_cases {w : World} {p : Nat} {l : List UInt8} (h : SrcAt w p l) (hl : l.length ≤ 1000000) (most : Nat) :
    (pCnt most l = none ∧ Calls Tryz.prog 63 #[.pointer (some ⟨p, 0, none⟩), .int .i64 (most : Int)] w fun e w' => e = .panicked (errP 8) ∧ Else (fun k => k = p) w w') ∨
    (∃ n r, pCnt most l = some (n, r) ∧ r.length ≤ 1000000 ∧ n ≤ most ∧ Calls Tryz.prog 63 #[.pointer (some ⟨p, 0, none⟩), .int .i64 (most : Int)] w fun e w' => e = .returned (.int .i64 (n : Int)) ∧ SrcAt w' p r ∧ Else (fun k => k = p) w w') := by
  have K := count_at h hl most
  cases e : pCnt most l with
  | none =>
    refine .inl ⟨rfl, K.mono fun e' w' ho => ?_⟩
    rcases ho.of with ⟨x, l', h1, _⟩ | ⟨_, h2, h3⟩
    · rw [e] at h1; cases h1
    · exact ⟨h2, h3⟩
  | some q =>
    obtain ⟨n, r⟩ := q
    obtain ⟨_, hn, hr⟩ := pCnt_some e
    refine .inr ⟨n, r, rfl, by omega, hn, K.mono fun e' w' ho => ?_⟩
    rcases ho.of with ⟨x, l', h1, v, h2, h3, h4, h5⟩ | ⟨h1, _⟩
    · rw [e] at h1
      cases h1
      subst h2 h3
      exact ⟨rfl, h4, h5⟩
    · rw [e] at h1; cases h1
end Go.Proofs.YtehfoaicohnpfaaGreatDoor
