/- The texts RecE RecF RecG RecH, one behind the other; each one's own comment says what it holds. -/
import Derived.Test.YtehfoaicohnpfaaGreatDoorRecordScansRowGA
import Derived.Lib.ConvBytes
import Derived.Laws.AppendOwn
/- The program's reader of records: rows. Conditions: at most 1000000 bytes. -/
set_option maxRecDepth 100000
namespace Go.Proofs.YtehfoaicohnpfaaGreatDoor
open Go.RowKit Go.Maps Go.Sort Go.Lib

/-- the bytes of a text, as a slice of their own -/
theorem str_slice (w : World) (s : ByteArray) : ∃ k W', (∀ q : Nat, q = 0 → (convert 9 22 (.string s)).run Tryz.prog w = .ok (.slice (some ⟨w.heap.size, 0, none⟩) s.size k) W') ∧ Below w.heap.size w W' ∧ Holds W' (.slice (some ⟨w.heap.size, 0, none⟩) s.size k) (u8s s.data.toList) := by
  have hl := tx_list s
  refine ⟨grownCap w s.size 0 5, Lib.bytesWorld w 5 s, fun _ _ => Lib.run_convert_string_bytes (P := Tryz.prog) w 9 22 5 s (u := .string) Tryz.underlying9 Tryz.underlying22 Tryz.underlying5, ?_, ?_⟩
  · exact ⟨rfl, rfl, rfl, by rw [Lib.bytesWorld_size]; omega, fun k hk => Lib.bytesWorld_at_old w 5 s k hk⟩
  · refine ⟨_, _, by rw [u8s_len, hl], by rw [u8s_len, hl]; exact grownCap_ge w s.size 0 5, .inr ⟨_, rfl, fun j u hj => ?_⟩⟩
    have hjl : j < s.data.toList.length := by
      have := (List.getElem?_eq_some_iff.1 hj).1
      rwa [u8s_len] at this
    rw [Addr.add_at, Nat.zero_add, Lib.bytesWorld_cell w 5 s j (by omega), List.getD_eq_getElem?_getD, List.getElem?_eq_getElem hjl]
    unfold u8s at hj
    rw [List.getElem?_map, List.getElem?_eq_getElem hjl] at hj
    simpa using hj
theorem ownsRow_rebase3v {w : World} {A B : Nat} {e : TypeId} {size : Nat} {v : Value} {n : Nat} {xs : List Value} (h : w.ownsRow A e size v n xs) (hb : ∀ g, v.ownBlock = some g → B ≤ g) : w.ownsRow B e size v n xs := by
  refine ⟨h.1, ?_⟩
  rcases h.2 with h2 | ⟨g, cap, cur, rfl, _, r⟩
  · exact .inl h2
  · exact .inr ⟨g, cap, cur, rfl, hb g rfl, r⟩
/-- rows of values of the call's own, row by row -/
def RowsIn (B : Nat) (vs : List Value) (ws : List (List VV)) (w : World) : Prop := vs.length = ws.length ∧ ∀ (i : Nat) (u : Value) (r : List VV), vs[i]? = some u → ws[i]? = some r → w.ownsRow B 99 3 u r.length (flatC r)
def RowsOk (B : Nat) (ws : List (List VV)) (v : Value) (w : World) : Prop := ∃ vs, w.ownsRow B 79 1 v ws.length vs ∧ RowsIn B vs ws w
theorem info_row : (Tryz.prog.info? 79).map (fun i => (i.zero, i.size, i.bytes)) = some (some (.slice none 0 0), 1, 24) := by kernel_rfl
theorem RowsIn.of_block {B : Nat} {vs : List Value} {ws : List (List VV)} {w w' : World} (h : RowsIn B vs ws w) (hb : ∀ g cur, w.heap[g]? = some (.cells cur 99 (0, 0)) → B ≤ g → w'.heap[g]? = w.heap[g]?) : RowsIn B vs ws w' :=
  ⟨h.1, fun i u r hu hr => ownsRow_of_block (h.2 i u r hu hr) fun g hg => by
    rcases (h.2 i u r hu hr).2 with ⟨e, _⟩ | ⟨g', cap, cur, e, hB, hh, _⟩
    · rw [e] at hg; simp [Value.ownBlock] at hg
    · rw [e] at hg
      have : g' = g := by simpa [Value.ownBlock] using hg
      subst this
      exact hb _ _ hh hB⟩
theorem RowsIn.snoc {B : Nat} {vs : List Value} {ws : List (List VV)} {w : World} (h : RowsIn B vs ws w) {u : Value} {r : List VV} (hr : w.ownsRow B 99 3 u r.length (flatC r)) : RowsIn B (vs ++ [u]) (ws ++ [r]) w := by
  refine ⟨by simp [h.1], fun i u' r' h1 h2 => ?_⟩
  rcases Nat.lt_or_ge i vs.length with g | g
  · rw [List.getElem?_append_left g] at h1
    rw [List.getElem?_append_left (by rw [← h.1]; exact g)] at h2
    exact h.2 i u' r' h1 h2
  · rw [List.getElem?_append_right g] at h1
    rw [List.getElem?_append_right (by rw [← h.1]; exact g), ← h.1] at h2
    rcases Nat.eq_zero_or_pos (i - vs.length) with e | e
    · rw [e] at h1 h2
      simp at h1 h2
      subst h1 h2
      exact hr
    · rw [List.getElem?_eq_none (by simp; omega)] at h1
      cases h1
/-- rows that are read -/
structure RowSt (w : World) (p : Nat) (lv : Value) (vs : List Value) (ws : List (List VV)) (l : List UInt8) (wr : World) : Prop where
  els : Else (fun k => k = p) w wr
  src : SrcAt wr p l
  plt : p < w.heap.size
  row : wr.ownsRow w.heap.size 79 1 lv ws.length vs
  inn : RowsIn w.heap.size vs ws wr
section
variable {w : World} {p : Nat} {lv : Value} {vs : List Value} {ws : List (List VV)} {l : List UInt8} {wr : World}
theorem RowSt.step {l' : List UInt8} {w' : World} (h : RowSt w p lv vs ws l wr) (he : Else (fun k => k = p) wr w') (hs : SrcAt w' p l') : RowSt w p lv vs ws l' w' where
  els := h.els.trans he (fun x hx => .inl hx)
  src := hs
  plt := h.plt
  row := ownsRow_of_block h.row fun g hg => he.block g (h.row.lt g hg).2 (by have := (h.row.lt g hg).1; have := h.plt; omega)
  inn := h.inn.of_block fun g cur hg hB => he.block g (lt_of_heap hg) (by have := h.plt; omega)
theorem RowSt.next {w' : World} (h : RowSt w p lv vs ws l wr) (hb : Below wr.heap.size wr w') : RowSt w p lv vs ws l w' := h.step (Else.of_below hb) (h.src.next hb)
/-- a row more -/
theorem RowSt.push {va : Option Addr} {n c : Nat} (h : RowSt w p lv vs ws l wr) (r : List VV) (hr : wr.ownsRow w.heap.size 99 3 (.slice va n c) r.length (flatC r)) (hl : ws.length ≤ 1000) :
    ∃ lv' X, (∀ ty, (Builtin.append_ #[41, 41] ty #[lv, .slice (some ⟨wr.heap.size, 0, none⟩) 1 1]).run Tryz.prog (wr.alloc (.cells #[.slice va n c] 79)) = .ok lv' X) ∧ RowSt w p lv' (vs ++ [.slice va n c]) (ws ++ [r]) l X := by
  have hB : w.heap.size ≤ wr.heap.size := h.els.size
  obtain ⟨lv', X, h1, ho, hg, _⟩ := push_row (P := Tryz.prog) (t := 41) Tryz.underlying41 info_row rfl (by omega) h.row hB [.slice va n c] rfl (fun u hu => by simp at hu; subst hu; rfl) (by omega) (by omega)
  have hlt := fun g hg => (h.row.lt g hg)
  have hpl := h.plt
  have keep : ∀ (g : Nat) (cur : Array Value), wr.heap[g]? = some (Obj.cells cur 99 (0, 0)) → X.heap[g]? = wr.heap[g]? := fun g cur hgg => hg.block g (lt_of_heap hgg) (fun e => row_ne h.row hgg (by decide) g e.symm rfl)
  refine ⟨lv', X, h1, ?_⟩
  exact {
    els := h.els.trans (Else.of_grown hg) (fun k hk => .inr (hlt k hk).1)
    src := h.src.frame fun k hk => hg.block k (by omega) (fun e => by have := (hlt k e.symm).1; omega)
    plt := h.plt
    row := by rw [List.length_append]; exact ho
    inn := (h.inn.snoc hr).of_block fun g cur hgg _ => keep g cur hgg }
end
/-- how far the rows are read -/
structure RowRel (n : Nat) (TR : Option (List (List VV) × List UInt8)) (i : Nat) (acc : List (List VV)) (l : List UInt8) : Prop where
  len : acc.length = i
  le : l.length ≤ 1000000
  eq : ((pMany pRow (n - i) l).bind fun s => some (acc ++ s.1, s.2)) = TR
set_option maxHeartbeats 3200000 in
theorem rows_at {w : World} {p : Nat} {l : List UInt8} (h : SrcAt w p l) (hl : l.length ≤ 1000000) :
    Calls Tryz.prog 58 #[.pointer (some ⟨p, 0, none⟩)] w (OutS p w (pRows l) (RowsOk w.heap.size)) := by
  have hplt := h.lt
  obtain ⟨TR, hTR⟩ : ∃ TR, pRows l = TR := ⟨_, rfl⟩
  rw [hTR]
  rcases cnt_cases h hl 200 with ⟨e, K⟩ | ⟨n, l2, e, hl2, hn, K⟩
  · obtain rfl : TR = none := by rw [← hTR]; unfold pRows; rw [e]; rfl
    clear h hl e hTR hplt
    go_enter Tryz.func58, Tryz.ntmps58
    go_wp2_with fail
    refine K.mono ?_
    rintro e w1 ⟨rfl, he⟩
    go_wp2_with fail
    simp only [bodyPost]
    exact ⟨trivial, OutS.no he⟩
  have hR : pMany pRow n l2 = TR := by rw [← hTR]; unfold pRows; rw [e]; rfl
  have HR := Lib.hid hR
  have HL2 := Lib.hid hl2
  have HN := Lib.hid hn
  have HP := Lib.hid hplt
  clear h hl e hTR hplt hR hl2 hn
  go_enter Tryz.func58, Tryz.ntmps58
  go_wp2_with fail
  refine K.mono ?_
  rintro e w2 ⟨rfl, hs, he⟩
  have ST : Hid (RowSt w p (.slice none 0 0) [] [] l2 w2) := Lib.hid ⟨he, hs, HP.out, World.ownsRow_nil _ _ _ _, ⟨rfl, fun i u r hu => by simp at hu⟩⟩
  clear hs he K
  go_wp2_with fail
  go_loopw [3, 8] (fun s3 k wr => ∃ (i : Nat) (lv : Value) (vs : List Value) (acc : List (List VV)) (l3 : List UInt8), k = .int .i64 i ∧ i ≤ n ∧ lv = s3 ∧ Hid (RowSt w p lv vs acc l3 wr) ∧ Hid (RowRel n TR i acc l3)) (fun _ k _ => n - (RowKit.intOf k).toNat)
  case atStart => exact ⟨0, _, [], [], l2, rfl, Nat.zero_le _, rfl, ST, Lib.hid ⟨rfl, HL2.out, by rw [← HR.out]; simp only [Nat.sub_zero, List.nil_append]; cases pMany pRow n l2 <;> rfl⟩⟩
  case round =>
    clear ST HR HL2
    obtain ⟨i, lv, vs, acc, l3, rfl, hin, rfl, ST, HR⟩ := hrel
    by_cases hlt : i < n
    · obtain ⟨ha, hl3, hR⟩ := HR.out
      have hw64 := wi_next hlt (Nat.le_trans HN.out (by decide))
      have b0 : (0 : Int) ≤ (i : Int) := Int.natCast_nonneg i
      have b1 : (i : Int) < (n : Int) := Int.ofNat_lt.2 hlt
      rw [sub_next hlt] at hR
      have TS := Lib.hid (fun (w4 : World) (l' : List UInt8) (he : Else (fun k => k = p) wr w4) (hs : SrcAt w4 p l') => ST.out.step he hs)
      rcases txt_cases ST.out.src hl3 with ⟨e, K⟩ | ⟨s, l4, e, hl4, hs6, K⟩
      · obtain rfl : TR = none := by rw [← hR, many_none (by unfold pRow; rw [e]; rfl)]; rfl
        have EW := Lib.hid ST.out.els
        clear ST HR ha hl3 hR TS
        go_wp2_with fail
        refine K.mono ?_
        rintro e w' ⟨rfl, he⟩
        exact ⟨rfl, OutS.no (EW.out.trans he (fun x hx => .inl hx))⟩
      · have TS1 := Lib.hid (fun (w4 : World) (he : Else (fun k => k = p) wr w4) (hs : SrcAt w4 p l4) => TS.out w4 l4 he hs)
        have hal : acc.length ≤ 1000 := by have := HN.out; omega
        have HAL := Lib.hid hal
        have HS6 := Lib.hid hs6
        have hcr : pRow l3 = (loadV s.data.toList).bind fun r => some (r, l4) := by unfold pRow; rw [e]; rfl
        have HRM := Lib.hid hR
        have HCR := Lib.hid hcr
        have HA := Lib.hid ha
        have HL4 := Lib.hid hl4
        clear ST HR ha hl3 hR TS hl4 e hal hs6 hcr
        go_wp2_with fail
        refine K.mono ?_
        rintro e w4 ⟨rfl, hs, he⟩
        have S4 := TS1.out w4 he hs
        obtain ⟨k, W5, hcv, hb5, hH⟩ := str_slice w4 s
        have hcv := hcv 0 rfl
        have S5 := S4.next hb5
        have KL := vload_own hH (by rw [tx_list]; exact HS6.out)
        have HS5 := Lib.hid S5
        clear S4 S5 hs he TS1 K hb5 hH HS6
        go_wp2_with fail
        refine KL.mono ?_
        rintro e w6 ⟨⟨v', ⟨r, e1, ho, rfl⟩ | ⟨e1, rfl, rfl⟩⟩, hb6⟩
        · have S6 := HS5.out.next hb6
          have hr : w6.ownsRow w.heap.size 99 3 v' r.length (flatC r) := ownsRow_rebase3v ho (fun g hg => Nat.le_trans HS5.out.els.size (ho.lt g hg).1)
          obtain ⟨va, vc, rfl, _⟩ := ownsRow_form hr
          obtain ⟨lv', X, h1, S7⟩ := S6.push r hr HAL.out
          have HR2 : Hid (RowRel n TR (i + 1) (acc ++ [r]) l4) := Lib.hid ⟨by rw [List.length_append, HA.out]; rfl, HL4.out, by rw [← HRM.out, many_some acc (by rw [HCR.out, e1]; rfl)]⟩
          have R1 := Lib.hid h1
          have HS7 := Lib.hid S7
          generalize r.length = m at *
          clear HS5 S6 hr ho h1 S7 e1 hb6 KL HRM HCR HA HL4 HAL
          go_wp2_with (at_builtin; refine wpList_append_run rfl _ _ 41 rfl rfl rfl (R1.out _) ?_)
          go_roundw
          case rel => exact ⟨i + 1, _, _, _, _, by go_num, hlt, rfl, HS7, HR2⟩
          case measure => simp [RowKit.intOf]; omega
        · obtain rfl : TR = none := by rw [← HRM.out, many_none (by rw [HCR.out, e1]; rfl)]; rfl
          have EW := Lib.hid ((HS5.out.next hb6).els)
          clear HS5 KL hb6
          go_wp2_with fail
          exact ⟨rfl, OutS.no EW.out⟩
    · have hei : i = n := end_eq hin hlt
      obtain ⟨_, _, hR⟩ := HR.out
      subst hei
      rw [Nat.sub_self] at hR
      obtain rfl : TR = some (acc, l3) := by rw [← hR]; simp [pMany]
      have FIN : Hid (OutS p w (some (acc, l3)) (RowsOk w.heap.size) (.returned lv) wr) := Lib.hid (OutS.yes ST.out.els ⟨vs, ST.out.row, ST.out.inn⟩ ST.out.src)
      clear hR HR ST
      go_wp2_with fail
      go_ret
      exact FIN.out
end Go.Proofs.YtehfoaicohnpfaaGreatDoor
/- The program's reader of records: a record. Conditions: at most 1000000 bytes. -/
set_option maxRecDepth 100000
namespace Go.Proofs.YtehfoaicohnpfaaGreatDoor
open Go.RowKit Go.Maps Go.Sort Go.Lib

/-- a record as a value -/
def recV (x : RV) (a b c d : Value) : Value := .agg #[.int .i64 x.k, .string x.tn, a, .string x.rn, .string x.rt, b, c, .string x.nm, d]
/-- a record of the call's own -/
structure RecOk (B : Nat) (x : RV) (a b c d : Value) (w : World) : Prop where
  tc : w.ownsRow B 48 2 a x.tc.length (fl2 (x.tc.map colC))
  rd : w.ownsRow B 9 1 b x.rd.length (strs x.rd)
  rm : w.ownsRow B 78 2 c x.rm.length (fl2 (x.rm.map meaC))
  ws : RowsOk B x.ws d w
def zero9 : Array Value := #[.int .i64 0, .string ⟨#[]⟩, .slice none 0 0, .string ⟨#[]⟩, .string ⟨#[]⟩, .slice none 0 0, .slice none 0 0, .string ⟨#[]⟩, .slice none 0 0]
def set9 (w : World) (r : Nat) (v0 v1 v2 v3 v4 v5 v6 v7 v8 : Value) : World := (((((((((w.setCell ⟨r, 0, none⟩ v0).setCell ⟨r, 1, none⟩ v1).setCell ⟨r, 2, none⟩ v2).setCell ⟨r, 3, none⟩ v3).setCell ⟨r, 4, none⟩ v4).setCell ⟨r, 5, none⟩ v5).setCell ⟨r, 6, none⟩ v6).setCell ⟨r, 7, none⟩ v7).setCell ⟨r, 8, none⟩ v8)
theorem set_nine {w : World} {r : Nat} {t : TypeId} (h : w.heap[r]? = some (.cells #[.int .i64 0, .string ⟨#[]⟩, .slice none 0 0, .string ⟨#[]⟩, .string ⟨#[]⟩, .slice none 0 0, .slice none 0 0, .string ⟨#[]⟩, .slice none 0 0] t (0, 0))) (v0 v1 v2 v3 v4 v5 v6 v7 v8 : Value) :
    (set9 w r v0 v1 v2 v3 v4 v5 v6 v7 v8).heap[r]? = some (.cells #[v0, v1, v2, v3, v4, v5, v6, v7, v8] t (0, 0)) ∧ ∀ k, k ≠ r → (set9 w r v0 v1 v2 v3 v4 v5 v6 v7 v8).heap[k]? = w.heap[k]? := by
  have h0 : (w.setCell ⟨r, 0, none⟩ v0).heap[r]? = some (.cells #[v0, .string ⟨#[]⟩, .slice none 0 0, .string ⟨#[]⟩, .string ⟨#[]⟩, .slice none 0 0, .slice none 0 0, .string ⟨#[]⟩, .slice none 0 0] t (0, 0)) := heap_set (j := 0) h v0
  have h1 : ((w.setCell ⟨r, 0, none⟩ v0).setCell ⟨r, 1, none⟩ v1).heap[r]? = some (.cells #[v0, v1, .slice none 0 0, .string ⟨#[]⟩, .string ⟨#[]⟩, .slice none 0 0, .slice none 0 0, .string ⟨#[]⟩, .slice none 0 0] t (0, 0)) := heap_set (j := 1) h0 v1
  have h2 : (((w.setCell ⟨r, 0, none⟩ v0).setCell ⟨r, 1, none⟩ v1).setCell ⟨r, 2, none⟩ v2).heap[r]? = some (.cells #[v0, v1, v2, .string ⟨#[]⟩, .string ⟨#[]⟩, .slice none 0 0, .slice none 0 0, .string ⟨#[]⟩, .slice none 0 0] t (0, 0)) := heap_set (j := 2) h1 v2
  have h3 : ((((w.setCell ⟨r, 0, none⟩ v0).setCell ⟨r, 1, none⟩ v1).setCell ⟨r, 2, none⟩ v2).setCell ⟨r, 3, none⟩ v3).heap[r]? = some (.cells #[v0, v1, v2, v3, .string ⟨#[]⟩, .slice none 0 0, .slice none 0 0, .string ⟨#[]⟩, .slice none 0 0] t (0, 0)) := heap_set (j := 3) h2 v3
  have h4 : (((((w.setCell ⟨r, 0, none⟩ v0).setCell ⟨r, 1, none⟩ v1).setCell ⟨r, 2, none⟩ v2).setCell ⟨r, 3, none⟩ v3).setCell ⟨r, 4, none⟩ v4).heap[r]? = some (.cells #[v0, v1, v2, v3, v4, .slice none 0 0, .slice none 0 0, .string ⟨#[]⟩, .slice none 0 0] t (0, 0)) := heap_set (j := 4) h3 v4
  have h5 : ((((((w.setCell ⟨r, 0, none⟩ v0).setCell ⟨r, 1, none⟩ v1).setCell ⟨r, 2, none⟩ v2).setCell ⟨r, 3, none⟩ v3).setCell ⟨r, 4, none⟩ v4).setCell ⟨r, 5, none⟩ v5).heap[r]? = some (.cells #[v0, v1, v2, v3, v4, v5, .slice none 0 0, .string ⟨#[]⟩, .slice none 0 0] t (0, 0)) := heap_set (j := 5) h4 v5
  have h6 : (((((((w.setCell ⟨r, 0, none⟩ v0).setCell ⟨r, 1, none⟩ v1).setCell ⟨r, 2, none⟩ v2).setCell ⟨r, 3, none⟩ v3).setCell ⟨r, 4, none⟩ v4).setCell ⟨r, 5, none⟩ v5).setCell ⟨r, 6, none⟩ v6).heap[r]? = some (.cells #[v0, v1, v2, v3, v4, v5, v6, .string ⟨#[]⟩, .slice none 0 0] t (0, 0)) := heap_set (j := 6) h5 v6
  have h7 : ((((((((w.setCell ⟨r, 0, none⟩ v0).setCell ⟨r, 1, none⟩ v1).setCell ⟨r, 2, none⟩ v2).setCell ⟨r, 3, none⟩ v3).setCell ⟨r, 4, none⟩ v4).setCell ⟨r, 5, none⟩ v5).setCell ⟨r, 6, none⟩ v6).setCell ⟨r, 7, none⟩ v7).heap[r]? = some (.cells #[v0, v1, v2, v3, v4, v5, v6, v7, .slice none 0 0] t (0, 0)) := heap_set (j := 7) h6 v7
  have h8 : (((((((((w.setCell ⟨r, 0, none⟩ v0).setCell ⟨r, 1, none⟩ v1).setCell ⟨r, 2, none⟩ v2).setCell ⟨r, 3, none⟩ v3).setCell ⟨r, 4, none⟩ v4).setCell ⟨r, 5, none⟩ v5).setCell ⟨r, 6, none⟩ v6).setCell ⟨r, 7, none⟩ v7).setCell ⟨r, 8, none⟩ v8).heap[r]? = some (.cells #[v0, v1, v2, v3, v4, v5, v6, v7, v8] t (0, 0)) := heap_set (j := 8) h7 v8
  unfold set9
  exact ⟨h8, fun k hk => (Below.heap_setCell _ _ _ k hk).trans ((Below.heap_setCell _ _ _ k hk).trans ((Below.heap_setCell _ _ _ k hk).trans ((Below.heap_setCell _ _ _ k hk).trans ((Below.heap_setCell _ _ _ k hk).trans ((Below.heap_setCell _ _ _ k hk).trans ((Below.heap_setCell _ _ _ k hk).trans ((Below.heap_setCell _ _ _ k hk).trans (Below.heap_setCell _ _ _ k hk))))))))⟩
theorem set9_below {a w : World} {B r : Nat} (h : Below B a w) (hr : B ≤ r) (v0 v1 v2 v3 v4 v5 v6 v7 v8 : Value) : Below B a (set9 w r v0 v1 v2 v3 v4 v5 v6 v7 v8) := by
  unfold set9
  exact (((((((((h.setCell (p := ⟨r, 0, none⟩) hr v0).setCell (p := ⟨r, 1, none⟩) hr v1).setCell (p := ⟨r, 2, none⟩) hr v2).setCell (p := ⟨r, 3, none⟩) hr v3).setCell (p := ⟨r, 4, none⟩) hr v4).setCell (p := ⟨r, 5, none⟩) hr v5).setCell (p := ⟨r, 6, none⟩) hr v6).setCell (p := ⟨r, 7, none⟩) hr v7).setCell (p := ⟨r, 8, none⟩) hr v8)
theorem nine_cells {w : World} {r : Nat} {t : TypeId} {v0 v1 v2 v3 v4 v5 v6 v7 v8 : Value} (h : w.heap[r]? = some (.cells #[v0, v1, v2, v3, v4, v5, v6, v7, v8] t (0, 0))) :
    w.cell? ⟨r, 0, none⟩ = some v0 ∧ w.cell? ⟨r, 1, none⟩ = some v1 ∧ w.cell? ⟨r, 2, none⟩ = some v2 ∧ w.cell? ⟨r, 3, none⟩ = some v3 ∧ w.cell? ⟨r, 4, none⟩ = some v4 ∧ w.cell? ⟨r, 5, none⟩ = some v5 ∧ w.cell? ⟨r, 6, none⟩ = some v6 ∧ w.cell? ⟨r, 7, none⟩ = some v7 ∧ w.cell? ⟨r, 8, none⟩ = some v8 ∧ ∀ j, w.frozen? ⟨r, j, none⟩ = false :=
  ⟨by rw [cell_of_row _ _ _ _ _ _ h]; rfl, by rw [cell_of_row _ _ _ _ _ _ h]; rfl, by rw [cell_of_row _ _ _ _ _ _ h]; rfl, by rw [cell_of_row _ _ _ _ _ _ h]; rfl, by rw [cell_of_row _ _ _ _ _ _ h]; rfl, by rw [cell_of_row _ _ _ _ _ _ h]; rfl, by rw [cell_of_row _ _ _ _ _ _ h]; rfl, by rw [cell_of_row _ _ _ _ _ _ h]; rfl, by rw [cell_of_row _ _ _ _ _ _ h]; rfl, free_of_row h⟩
theorem RecOk.of_block {B : Nat} {x : RV} {a b c d : Value} {w w' : World} {t : TypeId} {cs : Array Value} {r : Nat} (h : RecOk B x a b c d w) (hr : w.heap[r]? = some (.cells cs t (0, 0))) (h1 : t ≠ 48) (h2 : t ≠ 9) (h3 : t ≠ 78) (h4 : t ≠ 79) (h5 : t ≠ 99)
    (hk : ∀ k, k ≠ r → w'.heap[k]? = w.heap[k]?) : RecOk B x a b c d w' := by
  obtain ⟨vs, hv, hw⟩ := h.ws
  exact {
    tc := ownsRow_of_block h.tc fun g hg => hk g (row_ne h.tc hr h1 g hg)
    rd := ownsRow_of_block h.rd fun g hg => hk g (row_ne h.rd hr h2 g hg)
    rm := ownsRow_of_block h.rm fun g hg => hk g (row_ne h.rm hr h3 g hg)
    ws := ⟨vs, ownsRow_of_block hv fun g hg => hk g (row_ne hv hr h4 g hg), hw.of_block fun g cur hg _ => hk g (fun e => by
      subst e
      rw [hr] at hg
      simp at hg
      exact h5 hg.2)⟩ }
theorem rebaseV {w : World} {A B : Nat} {e : TypeId} {size : Nat} {v : Value} {n : Nat} {xs : List Value} (h : w.ownsRow A e size v n xs) (hb : B ≤ A) : w.ownsRow B e size v n xs := ownsRow_rebase3v h fun g hg => Nat.le_trans hb (h.lt g hg).1
theorem RowsOk.rebase {A B : Nat} {ws : List (List VV)} {v : Value} {w : World} (h : RowsOk A ws v w) (hb : B ≤ A) : RowsOk B ws v w := by
  obtain ⟨vs, hv, hl, hw⟩ := h
  exact ⟨vs, rebaseV hv hb, hl, fun i u r hu hr => rebaseV (hw i u r hu hr) hb⟩
theorem RowsOk.nil (B : Nat) (w : World) : RowsOk B [] (.slice none 0 0) w := ⟨[], World.ownsRow_nil _ _ _ _, rfl, fun i u r hu => by simp at hu⟩
theorem nilRow (w : World) (B : Nat) (e : TypeId) (k : Nat) : w.ownsRow B e k (.slice none 0 0) 0 [] := World.ownsRow_nil _ _ _ _
/-- what read answers -/
def ReadR (w : World) (l : List UInt8) (e : Ending) (w' : World) : Prop :=
  Below w.heap.size w w' ∧ ((∃ x a b c d, pRead l = some x ∧ e = .returned (recV x a b c d) ∧ RecOk w.heap.size x a b c d w') ∨ (pRead l = none ∧ e = .panicked (errP 8)))
theorem ReadR.no {w w' : World} {l : List UInt8} (hb : Below w.heap.size w w') (hp : pRead l = none) : ReadR w l (.panicked (errP 8)) w' := ⟨hb, .inr ⟨hp, rfl⟩⟩
theorem else_below {w W w' : World} {p : Nat} (hb : Below w.heap.size w W) (he : Else (fun k => k = p) W w') (hp : w.heap.size ≤ p) : Below w.heap.size w w' :=
  hb.trans (he.below hb.size (fun x hx => by subst hx; exact hp))
/-- the world in which the readers begin -/
structure ReadSt (w : World) (l : List UInt8) (W : World) : Prop where
  bel : Below w.heap.size w W
  src : SrcAt W (w.heap.size + 1) l
  res : W.heap[w.heap.size]? = some (.cells #[.int .i64 0, .string ⟨#[]⟩, .slice none 0 0, .string ⟨#[]⟩, .string ⟨#[]⟩, .slice none 0 0, .slice none 0 0, .string ⟨#[]⟩, .slice none 0 0] 43 (0, 0))
theorem ReadSt.start {w : World} {a : Option Addr} {n c : Nat} {l : List UInt8} (h : Holds w (.slice a n c) (u8s l)) :
    ReadSt w l ((w.alloc (.cells #[.int .i64 0, .string ⟨#[]⟩, .slice none 0 0, .string ⟨#[]⟩, .string ⟨#[]⟩, .slice none 0 0, .slice none 0 0, .string ⟨#[]⟩, .slice none 0 0] 43)).alloc (.cells #[.slice a n c] 110)) := by
  have hb1 := below_o w (.cells #[.int .i64 0, .string ⟨#[]⟩, .slice none 0 0, .string ⟨#[]⟩, .string ⟨#[]⟩, .slice none 0 0, .slice none 0 0, .string ⟨#[]⟩, .slice none 0 0] 43)
  have hs : (w.alloc (.cells #[.int .i64 0, .string ⟨#[]⟩, .slice none 0 0, .string ⟨#[]⟩, .string ⟨#[]⟩, .slice none 0 0, .slice none 0 0, .string ⟨#[]⟩, .slice none 0 0] 43)).heap.size = w.heap.size + 1 := by simp
  have hb2 := hb1.trans ((below_o (w.alloc (.cells #[.int .i64 0, .string ⟨#[]⟩, .slice none 0 0, .string ⟨#[]⟩, .string ⟨#[]⟩, .slice none 0 0, .slice none 0 0, .string ⟨#[]⟩, .slice none 0 0] 43)) (.cells #[.slice a n c] 110)).mono (by omega))
  refine ⟨hb2, ⟨a, n, c, ?_, h.below hb2, fun ad e hn => ?_⟩, ?_⟩
  · rw [← hs]; exact heap_alloc_new _ _
  · subst e
    obtain ⟨x, hx⟩ : ∃ x, (u8s l)[0]? = some x := ⟨_, List.getElem?_eq_getElem (by have := h.len.1; omega)⟩
    have := World.block_lt_of_cell? w _ (h.cell hx)
    rw [Addr.add_block] at this
    omega
  · exact (heap_alloc_old _ _ (by omega)).trans (heap_alloc_new w _)
theorem ReadSt.step {w W w' : World} {l l' : List UInt8} (h : ReadSt w l W) (he : Else (fun k => k = w.heap.size + 1) W w') (hs : SrcAt w' (w.heap.size + 1) l') : ReadSt w l' w' :=
  ⟨else_below h.bel he (by omega), hs, (he.block _ (lt_of_heap h.res) (by omega)).trans h.res⟩
theorem ReadSt.done {w W : World} {l : List UInt8} (h : ReadSt w l W) {x : RV} {a b c d : Value} (ho : RecOk w.heap.size x a b c d W) {b0 : List UInt8} (hp : pRead b0 = some x) :
    (set9 W w.heap.size (.int .i64 x.k) (.string x.tn) a (.string x.rn) (.string x.rt) b c (.string x.nm) d).heap[w.heap.size]? = some (.cells #[.int .i64 x.k, .string x.tn, a, .string x.rn, .string x.rt, b, c, .string x.nm, d] 43 (0, 0)) ∧
    ReadR w b0 (.returned (recV x a b c d)) (set9 W w.heap.size (.int .i64 x.k) (.string x.tn) a (.string x.rn) (.string x.rt) b c (.string x.nm) d) := by
  obtain ⟨h1, h2⟩ := set_nine h.res (.int .i64 x.k) (.string x.tn) a (.string x.rn) (.string x.rt) b c (.string x.nm) d
  exact ⟨h1, set9_below h.bel (Nat.le_refl _) _ _ _ _ _ _ _ _ _, .inl ⟨x, a, b, c, d, hp, rfl, ho.of_block h.res (by decide) (by decide) (by decide) (by decide) (by decide) h2⟩⟩
set_option maxHeartbeats 6400000 in
theorem read_at {w : World} {a : Option Addr} {n c : Nat} {l : List UInt8} (h : Holds w (.slice a n c) (u8s l)) (hl : l.length ≤ 1000000) :
    Calls Tryz.prog 43 #[.slice a n c] w (ReadR w l) := by
  have S0 := ReadSt.start h
  obtain ⟨W0, hW0⟩ : ∃ W0, ((w.alloc (.cells #[.int .i64 0, .string ⟨#[]⟩, .slice none 0 0, .string ⟨#[]⟩, .string ⟨#[]⟩, .slice none 0 0, .slice none 0 0, .string ⟨#[]⟩, .slice none 0 0] 43)).alloc (.cells #[.slice a n c] 110)) = W0 := ⟨_, rfl⟩
  rw [hW0] at S0
  have hs : w.heap.size + 1 = w.heap.size + 1 := rfl
  rcases num_cases S0.src hl with ⟨e, K⟩ | ⟨k, l1, e, hl1, k0, k1, K⟩
  · have e2 : pRead l = none := by unfold pRead; rw [e]; rfl
    have FIN := Lib.hid (fun (w' : World) (he : Else (fun k => k = w.heap.size + 1) W0 w') => ReadR.no (else_below S0.bel he (by omega)) e2)
    clear h hl e S0 e2
    go_enter Tryz.func43, Tryz.ntmps43
    go_wp2_with fail
    refine K.mono ?_
    rintro e w1 ⟨rfl, he⟩
    go_wp2_with fail
    simp only [bodyPost]
    exact ⟨trivial, FIN.out w1 he⟩
  have HS := Lib.hid (fun (w' : World) (l' : List UInt8) (he : Else (fun k => k = w.heap.size + 1) W0 w') (hs : SrcAt w' (w.heap.size + 1) l') => S0.step he hs)
  by_cases hk1 : k = 1
  · subst hk1
    have e2 : pRead l = (pTab l1).bind fun s => some (tabV s.1) := by unfold pRead; rw [e]; rfl
    have E2 := Lib.hid e2
    clear h hl e S0 e2 k0 k1
    go_enter Tryz.func43, Tryz.ntmps43
    go_wp2_with fail
    refine K.mono ?_
    rintro e w1 ⟨rfl, hs1, he⟩
    have S1 := Lib.hid (HS.out w1 l1 he hs1)
    have KT := table_at hs1 hl1
    clear HS K hW0 hs1 he hl1
    go_wp2_with fail
    refine KT.mono ?_
    intro e w2 h2
    rcases h2.of with ⟨q, l2, e3, v, rfl, ⟨cv, rfl, ho⟩, hs2, he2⟩ | ⟨e3, rfl, he2⟩
    · have S2 := S1.out.step he2 hs2
      have hp : pRead l = some (tabV q) := by rw [E2.out, e3]; rfl
      have hB := S1.out.bel.size
      have hR : RecOk w.heap.size (tabV q) cv (.slice none 0 0) (.slice none 0 0) (.slice none 0 0) w2 := ⟨rebaseV ho hB, nilRow _ _ _ _, nilRow _ _ _ _, RowsOk.nil _ _⟩
      obtain ⟨d1, FIN⟩ := S2.done hR hp
      obtain ⟨r0, r1, r2, r3, r4, r5, r6, r7, r8, rf⟩ := nine_cells S2.res
      obtain ⟨q0, q1, q2, q3, q4, q5, q6, q7, q8, _⟩ := nine_cells d1
      obtain ⟨va, vc, hcv, _⟩ := ownsRow_form ho
      obtain ⟨nm, cols⟩ := q
      simp only [tabV, nilS] at *
      generalize cols.length = N at *
      subst hcv
      unfold set9 at q0 q1 q2 q3 q4 q5 q6 q7 q8
      have FI := Lib.hid FIN
      clear S1 S2 hp hR d1 FIN E2 KT h2 e3 he2 hs2 ho
      go_wp2_with fail
      refine bodyPost_ret (v := .agg #[.int .i64 1, .string nm, .slice va N vc, .string ⟨#[]⟩, .string ⟨#[]⟩, .slice none 0 0, .slice none 0 0, .string ⟨#[]⟩, .slice none 0 0]) ?_ rfl FI.out
      simp [results, Tryz.results43, go_sem, q0, q1, q2, q3, q4, q5, q6, q7, q8]
    · have hp : pRead l = none := by rw [E2.out, e3]; rfl
      have FIN : ReadR w l (.panicked (errP 8)) w2 := ReadR.no (else_below S1.out.bel he2 (by omega)) hp
      clear S1 hp E2 KT h2 he2 e3
      go_wp2_with fail
      simp only [bodyPost]
      exact ⟨trivial, FIN⟩
  have t1 : (k == 1) = false := by rw [beq_eq_false_iff_ne]; exact hk1
  by_cases hk2 : k = 2
  · subst hk2
    have e2 : pRead l = (pRol l1).bind fun s => some (rolV s.1) := by unfold pRead; rw [e]; rfl
    have E2 := Lib.hid e2
    clear h hl e S0 e2 k0 k1 hk1
    go_enter Tryz.func43, Tryz.ntmps43
    go_wp2_with fail
    refine K.mono ?_
    rintro e w1 ⟨rfl, hs1, he⟩
    have S1 := Lib.hid (HS.out w1 l1 he hs1)
    have KT := rollup_at hs1 hl1
    clear HS K hW0 hs1 he hl1
    go_wp2_with fail
    refine KT.mono ?_
    intro e w2 h2
    rcases h2.of with ⟨q, l2, e3, v, rfl, ⟨dv, mv, rfl, hd, hm⟩, hs2, he2⟩ | ⟨e3, rfl, he2⟩
    · have S2 := S1.out.step he2 hs2
      have hp : pRead l = some (rolV q) := by rw [E2.out, e3]; rfl
      have hB := S1.out.bel.size
      have hR : RecOk w.heap.size (rolV q) (.slice none 0 0) dv mv (.slice none 0 0) w2 := ⟨nilRow _ _ _ _, rebaseV hd hB, rebaseV hm hB, RowsOk.nil _ _⟩
      obtain ⟨d1, FIN⟩ := S2.done hR hp
      obtain ⟨r0, r1, r2, r3, r4, r5, r6, r7, r8, rf⟩ := nine_cells S2.res
      obtain ⟨q0, q1, q2, q3, q4, q5, q6, q7, q8, _⟩ := nine_cells d1
      obtain ⟨va, vc, hdv, _⟩ := ownsRow_form hd
      obtain ⟨ua, uc, hmv, _⟩ := ownsRow_form hm
      obtain ⟨nm, nt, dims, meas⟩ := q
      simp only [rolV, nilS] at *
      generalize dims.length = N at *
      generalize meas.length = M at *
      subst hdv hmv
      unfold set9 at q0 q1 q2 q3 q4 q5 q6 q7 q8
      have FI := Lib.hid FIN
      clear S1 S2 hp hR d1 FIN E2 KT h2 e3 he2 hs2 hd hm
      go_wp2_with fail
      refine bodyPost_ret (v := .agg #[.int .i64 2, .string ⟨#[]⟩, .slice none 0 0, .string nm, .string nt, .slice va N vc, .slice ua M uc, .string ⟨#[]⟩, .slice none 0 0]) ?_ rfl FI.out
      simp [results, Tryz.results43, go_sem, q0, q1, q2, q3, q4, q5, q6, q7, q8]
    · have hp : pRead l = none := by rw [E2.out, e3]; rfl
      have FIN : ReadR w l (.panicked (errP 8)) w2 := ReadR.no (else_below S1.out.bel he2 (by omega)) hp
      clear S1 hp E2 KT h2 he2 e3
      go_wp2_with fail
      simp only [bodyPost]
      exact ⟨trivial, FIN⟩
  have t2 : (k == 2) = false := by rw [beq_eq_false_iff_ne]; exact hk2
  by_cases hk3 : k = 3
  · subst hk3
    have e2 : pRead l = (pTxt l1).bind fun s => (pRows s.2).bind fun t => some (batV s.1 t.1) := by unfold pRead; rw [e]; rfl
    have E2 := Lib.hid e2
    clear h hl e S0 e2 k0 k1 hk1 hk2
    go_enter Tryz.func43, Tryz.ntmps43
    go_wp2_with fail
    refine K.mono ?_
    rintro e w1 ⟨rfl, hs1, he⟩
    have S1 := Lib.hid (HS.out w1 l1 he hs1)
    clear HS K hW0 he
    rcases txt_cases hs1 hl1 with ⟨e, K⟩ | ⟨nm, l2, e, hl2, _, K⟩
    · have hp : pRead l = none := by rw [E2.out, e]; rfl
      have FIN := Lib.hid (fun (w2 : World) (he2 : Else (fun k => k = w.heap.size + 1) w1 w2) => ReadR.no (else_below S1.out.bel he2 (by omega)) hp)
      clear S1 hs1 hl1 E2 e hp
      go_wp2_with fail
      refine K.mono ?_
      rintro e w2 ⟨rfl, he2⟩
      go_wp2_with fail
      simp only [bodyPost]
      exact ⟨trivial, FIN.out w2 he2⟩
    have e4 : pRead l = (pRows l2).bind fun t => some (batV nm t.1) := by rw [E2.out, e]; rfl
    replace E2 := Lib.hid e4
    clear e e4 hs1 hl1
    go_wp2_with fail
    refine K.mono ?_
    rintro e w2 ⟨rfl, hs2, he2⟩
    have S2 := Lib.hid (S1.out.step he2 hs2)
    have KT := rows_at hs2 hl2
    clear S1 K hs2 he2 hl2
    go_wp2_with fail
    refine KT.mono ?_
    intro e w3 h3
    rcases h3.of with ⟨q, l3, e3, v, rfl, ho, hs3, he3⟩ | ⟨e3, rfl, he3⟩
    · have S3 := S2.out.step he3 hs3
      have hp : pRead l = some (batV nm q) := by rw [E2.out, e3]; rfl
      have hB := S2.out.bel.size
      have hR : RecOk w.heap.size (batV nm q) (.slice none 0 0) (.slice none 0 0) (.slice none 0 0) v w3 := ⟨nilRow _ _ _ _, nilRow _ _ _ _, nilRow _ _ _ _, ho.rebase hB⟩
      obtain ⟨d1, FIN⟩ := S3.done hR hp
      obtain ⟨r0, r1, r2, r3, r4, r5, r6, r7, r8, rf⟩ := nine_cells S3.res
      obtain ⟨q0, q1, q2, q3, q4, q5, q6, q7, q8, _⟩ := nine_cells d1
      obtain ⟨vs, hv, _⟩ := ho
      obtain ⟨va, vc, hcv, _⟩ := ownsRow_form hv
      simp only [batV, nilS] at *
      generalize q.length = N at *
      subst hcv
      unfold set9 at q0 q1 q2 q3 q4 q5 q6 q7 q8
      have FI := Lib.hid FIN
      clear S2 S3 hp hR d1 FIN E2 KT h3 e3 he3 hs3 hv
      go_wp2_with fail
      refine bodyPost_ret (v := .agg #[.int .i64 3, .string ⟨#[]⟩, .slice none 0 0, .string ⟨#[]⟩, .string ⟨#[]⟩, .slice none 0 0, .slice none 0 0, .string nm, .slice va N vc]) ?_ rfl FI.out
      simp [results, Tryz.results43, go_sem, q0, q1, q2, q3, q4, q5, q6, q7, q8]
    · have hp : pRead l = none := by rw [E2.out, e3]; rfl
      have FIN : ReadR w l (.panicked (errP 8)) w3 := ReadR.no (else_below S2.out.bel he3 (by omega)) hp
      clear S2 hp E2 KT h3 he3 e3
      go_wp2_with fail
      simp only [bodyPost]
      exact ⟨trivial, FIN⟩
  have t3 : (k == 3) = false := by rw [beq_eq_false_iff_ne]; exact hk3
  have e2 : pRead l = none := by unfold pRead; rw [e]; simp only [Option.bind_some]; rw [if_neg hk1, if_neg hk2, if_neg hk3]
  have FIN := Lib.hid (fun (w' : World) (he : Else (fun k => k = w.heap.size + 1) W0 w') => ReadR.no (else_below S0.bel he (by omega)) e2)
  clear h hl e S0 e2 k0 k1 hk1 hk2 hk3 HS
  go_enter Tryz.func43, Tryz.ntmps43
  go_wp2_with fail
  refine K.mono ?_
  rintro e w1 ⟨rfl, hs1, he⟩
  have FI := FIN.out w1 he
  clear hs1 he FIN K hW0
  go_wp2_with fail
  simp only [bodyPost]
  exact ⟨trivial, FI⟩
end Go.Proofs.YtehfoaicohnpfaaGreatDoor
/- The parts of a record: what its kind names, and the rest. Conditions: none. -/
set_option maxRecDepth 100000
namespace Go.Proofs.YtehfoaicohnpfaaGreatDoor
open Go.RowKit Go.Maps Go.Sort Go.Lib

theorem below_drewR {B : Nat} {a w : World} (h : Below B a w) : Below B a w.drew := ⟨h.os, h.tape, h.output, h.size, h.block⟩
theorem below_r2 (w : World) (A B : Obj) : Below w.heap.size w ((w.alloc A).alloc B).drew := below_drewR (((Below.refl _ _).alloc (Nat.le_refl _) A).alloc (by simp) B)
theorem below_r3 (w : World) (A B C : Obj) : Below w.heap.size w (((w.alloc A).alloc B).alloc C).drew := below_drewR ((((Below.refl _ _).alloc (Nat.le_refl _) A).alloc (by simp) B).alloc (by simp; omega) C)
set_option maxHeartbeats 1600000 in
theorem split_1 (tn rn rt nm : ByteArray) (a1 b1 c1 d1 : Option Addr) (an ac bn bc cn cc dn dc : Nat) (w : World) :
    Calls Tryz.prog 22 #[.agg #[.int .i64 1, .string tn, .slice a1 an ac, .string rn, .string rt, .slice b1 bn bc, .slice c1 cn cc, .string nm, .slice d1 dn dc]] w fun e w' =>
      e = .returned (.tuple #[.iface 86 (.agg #[.string tn, .slice a1 an ac]), .agg #[.int .i64 1, .string ⟨#[]⟩, .slice none 0 0, .string rn, .string rt, .slice b1 bn bc, .slice c1 cn cc, .string nm, .slice d1 dn dc]]) ∧ Below w.heap.size w w' := by
  go_enter Tryz.func22, Tryz.ntmps22
  go_wp2_with fail
  go_region
  go_wp2_with fail
  refine bodyPost_ret (v := .tuple #[.iface 86 (.agg #[.string tn, .slice a1 an ac]), .agg #[.int .i64 1, .string ⟨#[]⟩, .slice none 0 0, .string rn, .string rt, .slice b1 bn bc, .slice c1 cn cc, .string nm, .slice d1 dn dc]]) ?_ rfl ⟨rfl, ?_⟩
  · simp [results, Tryz.results22, go_sem]
  · exact below_r3 _ _ _ _
set_option maxHeartbeats 1600000 in
theorem split_2 (tn rn rt nm : ByteArray) (a1 b1 c1 d1 : Option Addr) (an ac bn bc cn cc dn dc : Nat) (w : World) :
    Calls Tryz.prog 22 #[.agg #[.int .i64 2, .string tn, .slice a1 an ac, .string rn, .string rt, .slice b1 bn bc, .slice c1 cn cc, .string nm, .slice d1 dn dc]] w fun e w' =>
      e = .returned (.tuple #[.iface 87 (.agg #[.string rn, .string rt, .slice b1 bn bc, .slice c1 cn cc]), .agg #[.int .i64 2, .string tn, .slice a1 an ac, .string ⟨#[]⟩, .string ⟨#[]⟩, .slice none 0 0, .slice none 0 0, .string nm, .slice d1 dn dc]]) ∧ Below w.heap.size w w' := by
  go_enter Tryz.func22, Tryz.ntmps22
  go_wp2_with fail
  go_region
  go_wp2_with fail
  refine bodyPost_ret (v := .tuple #[.iface 87 (.agg #[.string rn, .string rt, .slice b1 bn bc, .slice c1 cn cc]), .agg #[.int .i64 2, .string tn, .slice a1 an ac, .string ⟨#[]⟩, .string ⟨#[]⟩, .slice none 0 0, .slice none 0 0, .string nm, .slice d1 dn dc]]) ?_ rfl ⟨rfl, ?_⟩
  · simp [results, Tryz.results22, go_sem]
  · exact below_r3 _ _ _ _
set_option maxHeartbeats 1600000 in
theorem split_3 (tn rn rt nm : ByteArray) (a1 b1 c1 d1 : Option Addr) (an ac bn bc cn cc dn dc : Nat) (w : World) :
    Calls Tryz.prog 22 #[.agg #[.int .i64 3, .string tn, .slice a1 an ac, .string rn, .string rt, .slice b1 bn bc, .slice c1 cn cc, .string nm, .slice d1 dn dc]] w fun e w' =>
      e = .returned (.tuple #[.iface 89 (.agg #[.string nm, .slice d1 dn dc]), .agg #[.int .i64 3, .string tn, .slice a1 an ac, .string rn, .string rt, .slice b1 bn bc, .slice c1 cn cc, .string ⟨#[]⟩, .slice none 0 0]]) ∧ Below w.heap.size w w' := by
  go_enter Tryz.func22, Tryz.ntmps22
  go_wp2_with fail
  go_region
  go_wp2_with fail
  refine bodyPost_ret (v := .tuple #[.iface 89 (.agg #[.string nm, .slice d1 dn dc]), .agg #[.int .i64 3, .string tn, .slice a1 an ac, .string rn, .string rt, .slice b1 bn bc, .slice c1 cn cc, .string ⟨#[]⟩, .slice none 0 0]]) ?_ rfl ⟨rfl, ?_⟩
  · simp [results, Tryz.results22, go_sem]
  · exact below_r3 _ _ _ _
set_option maxHeartbeats 1600000 in
theorem split_no (k : Int) (h1 : k ≠ 1) (h2 : k ≠ 2) (h3 : k ≠ 3) (tn rn rt nm : ByteArray) (a1 b1 c1 d1 : Option Addr) (an ac bn bc cn cc dn dc : Nat) (w : World) :
    Calls Tryz.prog 22 #[.agg #[.int .i64 k, .string tn, .slice a1 an ac, .string rn, .string rt, .slice b1 bn bc, .slice c1 cn cc, .string nm, .slice d1 dn dc]] w fun e w' =>
      e = .returned (.tuple #[.nilIface, .agg #[.int .i64 k, .string tn, .slice a1 an ac, .string rn, .string rt, .slice b1 bn bc, .slice c1 cn cc, .string nm, .slice d1 dn dc]]) ∧ Below w.heap.size w w' := by
  have t1 : (k == 1) = false := by rw [beq_eq_false_iff_ne]; exact h1
  have t2 : (k == 2) = false := by rw [beq_eq_false_iff_ne]; exact h2
  have t3 : (k == 3) = false := by rw [beq_eq_false_iff_ne]; exact h3
  clear h1 h2 h3
  go_enter Tryz.func22, Tryz.ntmps22
  go_wp2_with fail
  go_region
  go_wp2_with fail
  refine bodyPost_ret (v := .tuple #[.nilIface, .agg #[.int .i64 k, .string tn, .slice a1 an ac, .string rn, .string rt, .slice b1 bn bc, .slice c1 cn cc, .string nm, .slice d1 dn dc]]) ?_ rfl ⟨rfl, ?_⟩
  · simp [results, Tryz.results22, go_sem]
  · exact below_r2 _ _ _
/-- 1 to most -/
theorem few_any (n most : Int) (w : World) : Calls Tryz.prog 93 #[.int .i64 n, .int .i64 most] w fun e w' => e = .returned (.bool (decide (1 ≤ n) && decide (n ≤ most))) ∧ w = w' := by
  cases t0 : decide (1 ≤ n)
  · go_enter Tryz.func93, Tryz.ntmps93
    go_wp2_with fail
    go_ret
    exact ⟨rfl, rfl⟩
  · cases t1 : decide (n ≤ most)
    all_goals (
      go_enter Tryz.func93, Tryz.ntmps93
      go_wp2_with fail
      go_ret
      exact ⟨rfl, rfl⟩)
theorem tgood_any (tn : ByteArray) (a : Option Addr) (n c : Nat) (w : World) : Calls Tryz.prog 91 #[.agg #[.string tn, .slice a n c]] w fun e w' => e = .returned (.bool (fewB n 8)) ∧ Below w.heap.size w w' := by
  have KF := few_any (n : Int) 8
  have e : (decide ((1 : Int) ≤ (n : Int)) && decide ((n : Int) ≤ 8)) = fewB n 8 := by unfold fewB; rw [Bool.eq_iff_iff]; simp; omega
  rw [e] at KF
  generalize fewB n 8 = r at *
  clear e
  go_enter Tryz.func91, Tryz.ntmps91
  go_wp2_with fail
  refine (KF _).mono ?_
  rintro e w1 ⟨rfl, rfl⟩
  go_wp2_with fail
  go_ret
  exact ⟨rfl, below_o _ _⟩
theorem rgood_any (rn rt : ByteArray) (a b : Option Addr) (n c m d : Nat) (w : World) : Calls Tryz.prog 95 #[.agg #[.string rn, .string rt, .slice a n c, .slice b m d]] w fun e w' => e = .returned (.bool (decide (n ≤ 8) && decide (m ≤ 16))) ∧ Below w.heap.size w w' := by
  have e : (decide (n ≤ 8) && decide (m ≤ 16)) = (decide ((n : Int) ≤ 8) && decide ((m : Int) ≤ 16)) := by rw [Bool.eq_iff_iff]; simp; omega
  rw [e]
  clear e
  cases t0 : decide ((n : Int) ≤ 8)
  · go_enter Tryz.func95, Tryz.ntmps95
    go_wp2_with fail
    go_ret
    exact ⟨rfl, below_o _ _⟩
  · cases t1 : decide ((m : Int) ≤ 16)
    all_goals (
      go_enter Tryz.func95, Tryz.ntmps95
      go_wp2_with fail
      go_ret
      exact ⟨rfl, below_o _ _⟩)
end Go.Proofs.YtehfoaicohnpfaaGreatDoor
/- A record in memory; which rows and batches may be. Conditions: at most 10^9 values of a row. -/
set_option maxRecDepth 100000
namespace Go.Proofs.YtehfoaicohnpfaaGreatDoor
open Go.RowKit Go.Maps Go.Sort Go.Lib

theorem holds2_of_owns {w : World} {B : Nat} {e : TypeId} {v : Value} {l : List (Value × Value)} {n : Nat} (h : w.ownsRow B e 2 v n (fl2 l)) (hn : n = l.length) : Holds2 w v l := by
  subst hn
  obtain ⟨a, c, rfl, hc, _⟩ := ownsRow_form h
  rcases h.2 with ⟨e, hn⟩ | ⟨g, cap, cur, e, _, hg, _⟩
  · simp at e
    obtain ⟨rfl, e2, rfl⟩ := e
    exact ⟨_, _, rfl, hc, .inl ⟨rfl, e2, rfl⟩⟩
  · simp at e
    obtain ⟨rfl, rfl⟩ := e
    refine ⟨_, _, rfl, hc, .inr ⟨_, rfl, fun i x hx => ?_⟩⟩
    have hcell := h.cells (g := g) rfl
    obtain ⟨a0, a1⟩ := fl2_at l i x hx
    have h0 := hcell _ _ a0
    have h1 := hcell _ _ a1
    simp only [Addr.add_at, Nat.zero_add] at h0 h1 ⊢
    exact ⟨h0, h1⟩
/-- a slice of rows of values -/
def RowsH (w : World) (v : Value) (ws : List (List VV)) : Prop := ∃ vs, Holds w v vs ∧ vs.length = ws.length ∧ ∀ (i : Nat) (u : Value) (r : List VV), vs[i]? = some u → ws[i]? = some r → HoldsV w u r
theorem RowsH.kept {w w' : World} {v : Value} {ws : List (List VV)} (h : RowsH w v ws) (hc : ∀ (a : Addr) u, w.cell? a = some u → w'.cell? a = some u) : RowsH w' v ws := by
  obtain ⟨vs, h1, h2, h3⟩ := h
  exact ⟨vs, h1.kept hc, h2, fun i u r hu hr => (h3 i u r hu hr).kept hc⟩
theorem RowsH.form {w : World} {v : Value} {ws : List (List VV)} (h : RowsH w v ws) : ∃ a c, v = .slice a ws.length c ∧ ws.length ≤ c := by
  obtain ⟨vs, h1, h2, _⟩ := h
  obtain ⟨a, c, e, hc⟩ := h1.form
  exact ⟨a, c, by rw [← h2]; exact e, by rw [← h2]; exact hc⟩
theorem RowsH.at_ {w : World} {a : Option Addr} {n c : Nat} {ws : List (List VV)} (h : RowsH w (.slice a n c) ws) {i : Nat} {r : List VV} (hr : ws[i]? = some r) : ∃ (ad : Addr) (u : Option Addr) (k : Nat), a = some ad ∧ w.cell? (ad.add i) = some (.slice u r.length k) ∧ HoldsV w (.slice u r.length k) r := by
  obtain ⟨vs, h1, h2, h3⟩ := h
  have hi : i < vs.length := by rw [h2]; exact (List.getElem?_eq_some_iff.1 hr).1
  have hu : vs[i]? = some vs[i] := List.getElem?_eq_getElem hi
  have hv := h3 i _ r hu hr
  obtain ⟨ad, rfl⟩ := h1.ptr (by have := h1.len.1; omega)
  have hc := h1.cell hu
  obtain ⟨u, k, e, _⟩ := hv.form
  rw [e] at hc hv
  exact ⟨ad, u, k, rfl, hc, hv⟩
/-- a record in memory -/
structure RecH (w : World) (x : RV) (a b c d : Value) : Prop where
  tc : Holds2 w a (x.tc.map colC)
  rd : Holds w b (strs x.rd)
  rm : Holds2 w c (x.rm.map meaC)
  ws : RowsH w d x.ws
theorem RecH.kept {w w' : World} {x : RV} {a b c d : Value} (h : RecH w x a b c d) (hc : ∀ (p : Addr) u, w.cell? p = some u → w'.cell? p = some u) : RecH w' x a b c d :=
  ⟨h.tc.kept hc, h.rd.kept hc, h.rm.kept hc, h.ws.kept hc⟩
theorem kept_below {w w' : World} (hb : Below w.heap.size w w') : ∀ (p : Addr) u, w.cell? p = some u → w'.cell? p = some u := fun p u hp => by rw [hb.cell (World.block_lt_of_cell? w p hp)]; exact hp
theorem RecH.below {w w' : World} {x : RV} {a b c d : Value} (h : RecH w x a b c d) (hb : Below w.heap.size w w') : RecH w' x a b c d := h.kept (kept_below hb)
theorem RecOk.holds {B : Nat} {x : RV} {a b c d : Value} {w : World} (h : RecOk B x a b c d w) : RecH w x a b c d := by
  refine ⟨holds2_of_owns h.tc (by simp), Holds.of_row (xs := strs x.rd) (by rw [strs_len]; exact h.rd), holds2_of_owns h.rm (by simp), ?_⟩
  obtain ⟨vs, hv, hl, hw⟩ := h.ws
  refine ⟨vs, Holds.of_row (xs := vs) (by rw [hl]; exact hv), hl, fun i u r hu hr => holdsV_of_owns (hw i u r hu hr)⟩
theorem RecH.form {w : World} {x : RV} {a b c d : Value} (h : RecH w x a b c d) : ∃ a1 ac b1 bc c1 cc d1 dc, a = .slice a1 x.tc.length ac ∧ b = .slice b1 x.rd.length bc ∧ c = .slice c1 x.rm.length cc ∧ d = .slice d1 x.ws.length dc := by
  obtain ⟨a1, ac, e1, _⟩ := h.tc.form
  obtain ⟨b1, bc, e2, _⟩ := h.rd.form
  obtain ⟨c1, cc, e3, _⟩ := h.rm.form
  obtain ⟨d1, dc, e4, _⟩ := h.ws.form
  rw [List.length_map] at e1 e3
  rw [strs_len] at e2
  exact ⟨a1, ac, b1, bc, c1, cc, d1, dc, e1, e2, e3, e4⟩
/-- the cells of a value, taken into a box -/
theorem all_take_succ {α : Type} {p : α → Bool} {l : List α} {i : Nat} {x : α} (h : l[i]? = some x) (ha : (l.take i).all p = true) : (l.take (i + 1)).all p = p x := by
  rw [List.take_add_one, h, Option.toList_some, List.all_append, ha]
  simp
theorem all_false {α : Type} {p : α → Bool} {l : List α} {i : Nat} {x : α} (h : l[i]? = some x) (hp : p x = false) : l.all p = false := by
  rw [Bool.eq_false_iff]
  intro g
  have := List.all_eq_true.1 g x (List.mem_of_getElem? h)
  rw [hp] at this; cases this
theorem fits_box' {w w1 : World} {x y z : Value} {t : Nat} (hb : Below (w.alloc (.cells #[x, y, z] t)).heap.size (w.alloc (.cells #[x, y, z] t)) w1) : C3 w1 w.heap.size x y z ∧ Below w.heap.size w w1 := by
  have b1 := (Below.refl w.heap.size w).alloc (Nat.le_refl _) (.cells #[x, y, z] t)
  exact ⟨(C3.new w x y z t).keep hb (by simp), b1.trans (hb.mono (by simp))⟩
set_option maxHeartbeats 1600000 in
theorem rowgood_any {w : World} {v : Value} {r : List VV} (h : HoldsV w v r) (hi : ∀ x ∈ r, x.inI) (hl : r.length ≤ 1000000000000) :
    Calls Tryz.prog 99 #[v] w fun e w' => e = .returned (.bool (r.all VV.good)) ∧ Below w.heap.size w w' := by
  obtain ⟨a, c, rfl, hc⟩ := h.form
  have H := Lib.hid h
  have HI := Lib.hid hi
  obtain ⟨B, hB⟩ : ∃ B, r.all VV.good = B := ⟨_, rfl⟩
  rw [hB]
  have HB := Lib.hid hB
  obtain ⟨n, hn⟩ : ∃ n, n = r.length := ⟨_, rfl⟩
  rw [← hn] at hl ⊢
  have HN := Lib.hid hn
  have HL := Lib.hid hl
  clear h hi hB hn hl hc
  go_enter Tryz.func99, Tryz.ntmps99
  go_wp2_with fail
  go_loopw [7] (fun k wr => ∃ i : Nat, k = .int .i64 i ∧ i ≤ n ∧ Hid ((r.take i).all VV.good = true ∧ Below w.heap.size w wr)) (fun k _ => n - (RowKit.intOf k).toNat)
  case atStart => exact ⟨0, rfl, Nat.zero_le _, Lib.hid ⟨by simp, Below.refl _ _⟩⟩
  case round =>
    obtain ⟨i, rfl, hin, HS⟩ := hrel
    by_cases hlt : i < n
    · obtain ⟨x, hx⟩ : ∃ x, r[i]? = some x := ⟨r[i]'(HN.out ▸ hlt), List.getElem?_eq_getElem _⟩
      obtain ⟨ad, rfl, d0, d1, d2⟩ := (H.out.below HS.out.2).at_ hx
      have hxi : x.inI := HI.out x (List.mem_of_getElem? hx)
      have KG := vgood_any x.k x.n x.s hxi.1 hxi.2
      have b0 : (0 : Int) ≤ (i : Int) := Int.natCast_nonneg i
      have b1 : (i : Int) < (n : Int) := Int.ofNat_lt.2 hlt
      have hw64 : IntKind.i64.wrap ((i : Int) + 1) = (i : Int) + 1 := by rw [IntKind.wrap_i64]; have := HL.out; omega
      have hg : x.good = goodV x.k x.n x.s := rfl
      cases hgx : goodV x.k x.n x.s
      · rw [hgx] at KG hg
        obtain rfl : B = false := by rw [← HB.out]; exact all_false hx hg
        have HBl := Lib.hid HS.out.2
        obtain ⟨xk, xn, xs⟩ := x
        simp only at d0 d1 d2 KG
        clear hx hxi hg hgx HS
        go_wp2_with fail
        refine (KG _).mono ?_
        rintro e w2 ⟨rfl, hb2⟩
        have FIN := HBl.out.trans ((fits_box' hb2).2.mono HBl.out.size)
        clear hb2
        go_wp2_with fail
        go_ret
        exact ⟨rfl, FIN⟩
      · rw [hgx] at KG hg
        have hT := (all_take_succ hx HS.out.1).trans hg
        have HBl := Lib.hid HS.out.2
        have HT := Lib.hid hT
        obtain ⟨xk, xn, xs⟩ := x
        simp only at d0 d1 d2 KG
        clear hx hxi hg hgx HS hT
        go_wp2_with fail
        refine (KG _).mono ?_
        rintro e w2 ⟨rfl, hb2⟩
        have FIN := Lib.hid (HBl.out.trans ((fits_box' hb2).2.mono HBl.out.size))
        clear hb2
        go_wp2_with fail
        go_roundw
        case rel => exact ⟨i + 1, by go_num, hlt, Lib.hid ⟨HT.out, FIN.out⟩⟩
        case measure => simp [RowKit.intOf]; omega
    · have hei : i = n := end_eq hin hlt
      obtain rfl : B = true := by rw [← HB.out, ← HS.out.1, hei, HN.out, List.take_length]
      have FIN := HS.out.2
      clear HS HB
      go_wp2_with fail
      go_ret
      exact ⟨rfl, FIN⟩
end Go.Proofs.YtehfoaicohnpfaaGreatDoor
