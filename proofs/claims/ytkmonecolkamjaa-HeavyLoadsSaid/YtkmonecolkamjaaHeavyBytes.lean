/- Contract of heavy's Bytes. Conditions: a sketch that was made. -/
import Derived.Test.YtkmonecolkamjaaHeavySide
import Derived.Test.YtkmonecolkamjaaCodecPut
import Derived.Test.YtkmonecolkamjaaCodecZig
import Derived.Deep.RegionHeld3
set_option maxRecDepth 100000
namespace Go.Proofs.Ytkmonecolkamjaa
open Go.RowKit Go.Maps Go.Sort Go.Shelf

def zigH (n : Int) : Nat := (zigN n).toNat
theorem zigH_eq {n : Int} (h : InI n) : zigN n = (zigH n : Int) ∧ zigH n < 18446744073709551616 := by
  unfold InI at h
  unfold zigH
  by_cases g : n < 0
  · rw [zig_neg g]; omega
  · rw [zig_pos g]; omega
def wds (l : List Nat) : List Value := l.map fun n : Nat => .int .u64 (n : Int)
theorem wds_len (l : List Nat) : (wds l).length = l.length := by simp [wds]
theorem wds_append (a b : List Nat) : wds (a ++ b) = wds a ++ wds b := by simp [wds]
theorem wds_at {l : List Nat} {k : Nat} (h : k < l.length) : (wds l)[k]? = some (.int .u64 (l[k] : Int)) := by simp [wds, h]
theorem wds_one (l : List Nat) : ∀ u ∈ wds l, u.oneCell' = true := fun u hu => by
  obtain ⟨n, _, rfl⟩ := List.mem_map.1 hu
  rfl
/-- the counters' numbers -/
def cwords (L : CL) : List Nat := L.flatMap fun p => [zigH p.1, p.2.toNat]
theorem cwords_len : ∀ L : CL, (cwords L).length = 2 * L.length
  | [] => rfl
  | p :: r => by
    have := cwords_len r
    unfold cwords at this ⊢
    rw [List.flatMap_cons, List.length_append, this, List.length_cons]; simp; omega
theorem cwords_next {L : CL} {k : Nat} {q : Int × Int} (hq : L[k]? = some q) : cwords (L.take (k + 1)) = cwords (L.take k) ++ [zigH q.1, q.2.toNat] := by
  obtain ⟨h, e⟩ := List.getElem?_eq_some_iff.1 hq
  unfold cwords
  rw [List.take_succ_eq_append_getElem h, List.flatMap_append, e]
  simp
def bytesW (us : List Nat) : List UInt8 := us.flatMap dig
theorem bytesW_append (a b : List Nat) : bytesW (a ++ b) = bytesW a ++ bytesW b := by simp [bytesW]
theorem bytesW_one (u : Nat) : bytesW [u] = dig u := by simp [bytesW]
theorem bytesW_len : ∀ (us : List Nat), (∀ u ∈ us, u < 18446744073709551616) → (bytesW us).length ≤ 10 * us.length
  | [], _ => Nat.zero_le _
  | u :: r, h => by
    have ih := bytesW_len r fun x hx => h x (List.mem_cons_of_mem _ hx)
    have := dig_len10 (h u (List.mem_cons_self ..))
    unfold bytesW at ih ⊢
    rw [List.flatMap_cons, List.length_append, List.length_cons]; omega
/-- what a sketch's bytes tell -/
def HV.words (V : HV) : List Nat := V.n :: V.L.length :: cwords V.L
def HV.bytes (V : HV) : List UInt8 := bytesW V.words
theorem cwords_lt {L : CL} (h : ∀ p ∈ L, InI p.1 ∧ InI p.2) : ∀ u ∈ cwords L, u < 18446744073709551616 := fun u hu => by
  obtain ⟨p, hp, hu⟩ := List.mem_flatMap.1 hu
  have h2 := (h p hp).2
  unfold InI at h2
  simp at hu
  rcases hu with rfl | rfl
  · exact (zigH_eq (h p hp).1).2
  · omega
theorem words_lt {V : HV} (hG : V.Good) (h : ∀ p ∈ V.L, InI p.1 ∧ InI p.2) : ∀ u ∈ V.words, u < 18446744073709551616 := fun u hu => by
  have := hG.n50
  have := hG.len
  have := hG.m64
  unfold HV.words at hu
  rcases List.mem_cons.1 hu with rfl | hu
  · omega
  · rcases List.mem_cons.1 hu with rfl | hu
    · omega
    · exact cwords_lt h u hu
theorem words_len {V : HV} (hG : V.Good) : V.words.length ≤ 130 := by
  have := hG.len
  have := hG.m64
  unfold HV.words
  rw [List.length_cons, List.length_cons, cwords_len]; omega

theorem HkAt.of_below {T : Tags} {i : Nat} {w w' : World} {p m n b : Nat} {L : CL} (h : HkAt T i w p m n b L) (hb : Below w.heap.size w w') : HkAt T i w' p m n b L :=
  ⟨(hb.block p (lt_of_heap h.head)).trans h.head, h.tp, h.map.of_block (hb.block b h.map.lt), h.tb⟩
theorem below_drew (w : World) : Below w.heap.size w w.drew := ⟨rfl, rfl, rfl, Nat.le_refl _, fun _ _ => rfl⟩

/-- a row of numbers of the call's own, beside the counters' row g -/
def OwnU (w : World) (g : Nat) (us : List Nat) (v : Value) (w' : World) : Prop :=
  w'.ownsRow w.heap.size 76 1 v us.length (wds us) ∧ (∀ x, v.ownBlock = some x → x ≠ g) ∧ Below w.heap.size w w'
theorem two_own {w : World} {B : Nat} (hB : B ≤ w.heap.size) (a b : Nat) : (w.alloc (.cells #[.int .u64 a, .int .u64 b] 76)).ownsRow B 76 1 (.slice (some ⟨w.heap.size, 0, none⟩) 2 2) [a, b].length (wds [a, b]) :=
  ⟨by simp [wds], .inr ⟨w.heap.size, 2, _, rfl, hB, alloc1 w _, Nat.le_refl _, by unfold maxLen; omega, by simp, by simp [wds]⟩⟩
theorem OwnU.app {w wr : World} {g : Nat} {us : List Nat} {v : Value} (h : OwnU w g us v wr) (hg : g < wr.heap.size) (a b : Nat) (hl : us.length ≤ 100000) :
    ∃ v' w', (∀ ty, (Builtin.append_ #[83, 83] ty #[v, .slice (some ⟨wr.heap.size, 0, none⟩) 2 2]).run Try.prog (wr.alloc (.cells #[.int .u64 a, .int .u64 b] 76)) = .ok v' w') ∧ OwnU w g (us ++ [a, b]) v' w' ∧ wr.grownBy w' v.ownBlock := by
  obtain ⟨h1, h2, h3⟩ := h
  have hs := h3.size
  obtain ⟨v2, w2, r, o, gr, bl⟩ := app_any (P := Try.prog) Try.underlying83 infoU (by omega) rfl (by rw [wds_len]; exact h1.alloc (.cells #[.int .u64 a, .int .u64 b] 76)) (by simp; omega)
    (Holds.of_heap (l := wds [a, b]) (alloc1 wr (.cells #[.int .u64 a, .int .u64 b] 76)) (by simp [wds]) 2 2 (by simp [wds]) (Nat.le_refl _)) (wds_one _) (by rw [wds_len]; simp [wds]; omega)
  have gr2 : wr.grownBy w2 v.ownBlock := (World.grownBy_alloc wr _ v.ownBlock).andThen gr (fun j hj => .inr hj)
  refine ⟨v2, w2, r, ⟨?_, fun x hx => ?_, ?_⟩, gr2⟩
  · rw [← wds_append, wds_len] at o; exact o
  · rcases bl with e | e
    · exact h2 x (by rw [← e]; exact hx)
    · rw [e] at hx
      have := Option.some.inj hx
      simp at this; omega
  · exact h3.trans (below_grown gr2 hs (fun x hx => ownsRow_ge h1 x hx))

/-- bytes of the call's own -/
def OwnB (w : World) (xs : List UInt8) (v : Value) (w' : World) : Prop := w'.ownsRow w.heap.size 5 1 v xs.length (u8s xs) ∧ Below w.heap.size w w'
def BytesAt (w : World) (xs : List UInt8) (e : Ending) (w' : World) : Prop := ∃ v, e = .returned v ∧ OwnB w xs v w'
theorem OwnB.put {w wr : World} {xs : List UInt8} {v : Value} (h : OwnB w xs v wr) (d : Nat) (hd : d < 18446744073709551616) (hx : xs.length ≤ 100000) :
    Calls Try.prog 46 #[v, .int .u64 (d : Int)] wr fun e w' => ∃ v', e = .returned v' ∧ Hid (OwnB w (xs ++ dig d) v' w') ∧ Below wr.heap.size wr w' := by
  refine (Put_any (Holds.of_row (by rw [u8s_len]; exact h.1)) d hd (by omega)).mono ?_
  rintro e w' ⟨v', rfl, ho, hb⟩
  exact ⟨v', rfl, ⟨ownsRow_rebase ho (fun g hg => Nat.le_trans h.2.size (ho.lt g hg).1), h.2.trans (hb.mono h.2.size)⟩, hb⟩

set_option maxHeartbeats 3200000 in
theorem bytes_any {T : Tags} {i : Nat} {w : World} {p : Nat} {V : HV} (h : Hk p V T i w) :
    Calls Try.prog 24 #[.pointer (some ⟨p, 0, none⟩)] w (BytesAt w V.bytes) := by
  obtain ⟨b, hA, hG⟩ := h
  obtain ⟨c0, c1, c2, _⟩ := hA.cells
  have KM := made_yes c0 hG.m1
  have hln : ∀ ty, (Builtin.len_ #[55] ty #[.map (some b)]).run Try.prog w.drew = .ok (.int .i64 V.L.length) w.drew := (hA.map.of_block (w' := w.drew) rfl).len
  have hn := hG.n50
  have hl := hG.len
  have hm := hG.m64
  have hl64 : V.L.length ≤ 64 := by omega
  have HG := Lib.hid hG
  have HA := Lib.hid hA
  have wn : IntKind.u64.wrap (V.n : Int) = (V.n : Int) := by rw [IntKind.wrap_u64]; omega
  have wl : IntKind.u64.wrap (V.L.length : Int) = (V.L.length : Int) := by rw [IntKind.wrap_u64]; omega
  clear hA hG hn hl hm
  go_enter Try.func24, Try.ntmps24
  go_wp2_with fail
  refine KM.mono ?_
  rintro e w' ⟨rfl, rfl⟩
  clear KM
  go_wp2_with fail
  go_region
  obtain ⟨W1, hW⟩ : ∃ W1, (w.alloc (.cells #[.int .u64 V.n, .int .u64 V.L.length] 76)).drew = W1 := ⟨_, rfl⟩
  have hB1 : Below w.heap.size w W1 := by rw [← hW]; exact ((Below.refl _ w).alloc (Nat.le_refl _) _).trans ((below_drew _).mono (by simp))
  have HO1 : Hid (W1.ownsRow w.heap.size 76 1 (.slice (some ⟨w.heap.size, 0, none⟩) 2 2) [V.n, V.L.length].length (wds [V.n, V.L.length])) := by
    rw [← hW]; exact two_own (w := w) (Nat.le_refl _) V.n V.L.length
  have hs1 : W1.heap.size = w.heap.size + 1 := by rw [← hW]; simp
  rw [hW]
  have HA1 := HA.out.of_below hB1
  obtain ⟨d0, _, d2, _⟩ := HA1.cells
  have KC := counters_at d0 HG.out.m1 d2 HA1.map (by omega)
  have HB1 := Lib.hid hB1
  clear hW hB1 HA1 d0 d2 c0 c1 c2 hln wn wl
  go_wp2_with fail
  refine KC.mono ?_
  rintro e w2 ⟨g, c, rfl, hg, hc, hR, hBel⟩
  have HR := Lib.hid hR
  have HB2 := Lib.hid (HB1.out.trans (hBel.mono HB1.out.size))
  have X0 : Hid (OwnU w g (V.n :: V.L.length :: cwords (V.L.take 0)) (.slice (some ⟨w.heap.size, 0, none⟩) 2 2) w2) := Lib.hid ⟨ownsRow_below HO1.out hBel, fun x hx => by have := Option.some.inj hx; simp at this; omega, HB2.out⟩
  have HIN : Hid (∀ q ∈ V.L, InI q.1 ∧ InI q.2) := Lib.hid HA.out.map.inI
  clear KC hg hc hR hBel HO1 HB1 hs1
  go_wp2_with fail
  go_loopw [3, 27] (fun s3 s27 wr => ∃ k : Nat, s27 = .int .i64 k ∧ k ≤ V.L.length ∧ Hid (OwnU w g (V.n :: V.L.length :: cwords (V.L.take k)) s3 wr) ∧ Hid (RowP wr g V.L)) (fun _ s _ => V.L.length - (intOf s).toNat)
  case atStart => exact ⟨0, rfl, Nat.zero_le _, X0.out, HR.out⟩
  case round =>
    clear X0 HR HB2
    obtain ⟨k, rfl, hk, HX, HR⟩ := hrel
    by_cases hlt : k < V.L.length
    · have hz : (k : Int) < (V.L.length : Int) := by omega
      obtain ⟨q, hq⟩ : ∃ q, V.L[k]? = some q := ⟨_, List.getElem?_eq_getElem hlt⟩
      obtain ⟨r0, r1, _, _⟩ := HR.out.cell hq
      obtain ⟨hi1, hi2⟩ := HIN.out q (List.mem_of_getElem? hq)
      have hq1 := HG.out.pos q (List.mem_of_getElem? hq)
      obtain ⟨N, hN⟩ : ∃ N : Nat, N = q.2.toNat := ⟨_, rfl⟩
      have hNq : q.2 = (N : Int) := by omega
      have HXA : Hid (OwnU w g (V.n :: V.L.length :: cwords (V.L.take k)) u3 (wr.alloc (.cells #[.int .i64 q.1, .int .i64 q.2] 50)).drew) :=
        Lib.hid ⟨HX.out.1.alloc _, HX.out.2.1, (HX.out.2.2.alloc HX.out.2.2.size _).trans ((below_drew _).mono (by have := HX.out.2.2.size; simp; omega))⟩
      have HCN := Lib.hid (cwords_next hq)
      rw [← hN] at HCN
      obtain ⟨v', w', hrun, hX2, hgr⟩ := HXA.out.app (by have := HR.out.2; simp; omega) (zigH q.1) N (by simp [cwords_len]; omega)
      have NP : g ≠ wr.heap.size := by have := HR.out.2; omega
      have HX3 : Hid (OwnU w g (V.n :: V.L.length :: cwords (V.L.take (k + 1))) v' w') := Lib.hid (by rw [HCN.out]; simpa using hX2)
      have HR3 : Hid (RowP w' g V.L) := Lib.hid (HR.out.of_block ((hgr.block g (by have := HR.out.2; simp; omega) (fun e => HXA.out.2.1 g e.symm rfl)).trans (heap_alloc_old _ _ HR.out.2)) (by have := hgr.size; simp at this; omega))
      obtain ⟨hz1, hz2⟩ := zigH_eq hi1
      have KZ := fun W => Lib.hid (Zig_any q.1 W hi1.1 hi1.2)
      rw [hz1] at KZ
      have wN : IntKind.u64.wrap q.2 = (N : Int) := by rw [hNq, IntKind.wrap_u64]; unfold InI at hi2; omega
      have NS : ∀ x, u3.ownBlock = some x → x ≠ wr.heap.size := fun x hx => by have := (HX.out.1.lt x hx).2; omega
      clear hq HX hX2 hi1 hi2 hq1 hN hNq HR hz1
      go_wp2_with fail
      obtain ⟨W, hW⟩ : ∃ W, wr.alloc (.cells #[.int .i64 q.1, .int .i64 q.2] 50) = W := ⟨_, rfl⟩
      have d0 : W.cell? ⟨wr.heap.size, 0, none⟩ = some (.int .i64 q.1) := by
        rw [cell_of_row _ _ _ _ _ _ (hW ▸ heap_alloc_new wr _)]; rfl
      have d1 : W.cell? ⟨wr.heap.size, 1, none⟩ = some (.int .i64 q.2) := by
        rw [cell_of_row _ _ _ _ _ _ (hW ▸ heap_alloc_new wr _)]; rfl
      have hsW : W.heap.size = wr.heap.size + 1 := by rw [← hW]; simp
      rw [hW] at hrun hgr ⊢
      have HRUN := Lib.hid hrun
      have S1 : Hid ((W.drew.alloc (.cells #[.int .u64 (zigH q.1 : Nat), .int .u64 N] 76)).cell? ⟨wr.heap.size, 0, none⟩ = some (.int .i64 q.1) ∧ (W.drew.alloc (.cells #[.int .u64 (zigH q.1 : Nat), .int .u64 N] 76)).cell? ⟨wr.heap.size, 1, none⟩ = some (.int .i64 q.2)) := by
        have hb := ((Below.refl _ W.drew).alloc (Nat.le_refl _) (.cells #[.int .u64 (zigH q.1 : Nat), .int .u64 N] 76))
        exact ⟨(hb.cell (p := ⟨wr.heap.size, 0, none⟩) (by show wr.heap.size < W.heap.size; omega)).trans d0, (hb.cell (p := ⟨wr.heap.size, 1, none⟩) (by show wr.heap.size < W.heap.size; omega)).trans d1⟩
      have S2 : Hid (w'.cell? ⟨wr.heap.size, 0, none⟩ = some (.int .i64 q.1) ∧ w'.cell? ⟨wr.heap.size, 1, none⟩ = some (.int .i64 q.2)) := by
        have hb : w'.heap[wr.heap.size]? = W.heap[wr.heap.size]? := hgr.block _ (by show wr.heap.size < W.heap.size; omega) (fun e => NS _ e.symm rfl)
        exact ⟨by rw [World.cell?_of_block (w := W) hb]; exact d0, by rw [World.cell?_of_block (w := W) hb]; exact d1⟩
      clear hW hrun hgr NS HXA hsW r0 r1
      go_region_held3 (fun w' => w'.cell? ⟨wr.heap.size, 0, none⟩ = some (.int .i64 q.1) ∧ w'.cell? ⟨wr.heap.size, 1, none⟩ = some (.int .i64 q.2))
        (first | assumption | exact S1.out | exact S2.out | exact ⟨d0, d1⟩)
        (first
          | (go_at_call 45; refine (KZ _).out.mono ?_; rintro e w6 ⟨rfl, rfl⟩)
          | (refine step_append_run rfl (.tmp 31) (.tmp 38) 83 rfl (by simp [Act.eval]) (by simp [Act.eval]) (HRUN.out _) ?_))
      rename_i hheld
      clear hheld d0 d1 S1 S2 KZ wN HRUN
      go_wp2_with fail
      go_roundw
      case rel => exact ⟨k + 1, by go_num, by omega, HX3.out, HR3.out⟩
      case measure => simp [intOf]; omega
    · obtain rfl : k = V.L.length := by omega
      have hX := HX.out
      rw [List.take_length] at hX
      obtain ⟨US, hUS⟩ : ∃ US, US = V.words := ⟨_, rfl⟩
      have hXU : OwnU w g US u3 wr := by rw [hUS]; exact hX
      have hU0 : Holds wr u3 (wds US) := Holds.of_row (by rw [wds_len]; exact hXU.1)
      obtain ⟨ua, uc, rfl, hucl⟩ := hU0.form
      rw [wds_len] at hU0 hucl
      have HU := Lib.hid hU0
      have HBW := Lib.hid hXU.2.2
      have HLT : Hid (∀ u ∈ US, u < 18446744073709551616) := Lib.hid (by rw [hUS]; exact words_lt HG.out HIN.out)
      have hUL : US.length ≤ 130 := by rw [hUS]; exact words_len HG.out
      have HBY : Hid (V.bytes = bytesW US) := Lib.hid (by rw [hUS]; rfl)
      have HULE := Lib.hid hUL
      rw [wds_len]
      obtain ⟨M, hM⟩ : ∃ M, US.length = M := ⟨_, rfl⟩
      rw [hM] at HU ⊢
      have hM130 : M ≤ 130 := by omega
      have HM := Lib.hid hM
      clear HX HR hX hUS hXU hU0 hucl hM hUL
      obtain ⟨W, hW⟩ : ∃ W : World, W = wr := ⟨_, rfl⟩
      clear hW
      go_wp2_with fail
      go_loopw [6, 43] (fun s6 s43 wq => ∃ j : Nat, s43 = .int .i64 j ∧ j ≤ M ∧ Hid (OwnB w (bytesW (US.take j)) s6 wq) ∧ Hid (Below wr.heap.size wr wq)) (fun _ s _ => M - (intOf s).toNat)
      case atStart => exact ⟨0, rfl, Nat.zero_le _, ⟨by simpa [bytesW, u8s] using World.ownsRow_nil _ _ _ _, HBW.out⟩, Below.refl _ _⟩
      case round =>
        obtain ⟨j, rfl, hj, HO, HB⟩ := hrel
        by_cases hlt2 : j < M
        · have hz2 : (j : Int) < (M : Int) := by omega
          have hjl : j < US.length := by rw [HM.out]; exact hlt2
          have hh := HU.out.below HB.out
          obtain ⟨ad, hua⟩ := hh.ptr (by omega)
          subst hua
          have hc := hh.cell (wds_at hjl)
          have hx := HLT.out _ (List.getElem_mem hjl)
          have hbl := bytesW_len (US.take j) (fun u hu => HLT.out u (List.mem_of_mem_take hu))
          rw [List.length_take] at hbl
          have KP := HO.out.put US[j] hx (by omega)
          have HN : Hid (bytesW (US.take j) ++ dig US[j] = bytesW (US.take (j + 1))) := by
            show _ = _
            rw [List.take_succ_eq_append_getElem hjl, bytesW_append, bytesW_one]
          generalize US[j] = X at hc KP HN
          clear hx hbl hh hjl HO
          go_wp2_with fail
          refine KP.mono ?_
          rintro e w3 ⟨v3, rfl, ho, hb⟩
          have HO2 : Hid (OwnB w (bytesW (US.take (j + 1))) v3 w3) := Lib.hid (by rw [← HN.out]; exact ho.out)
          have HB2 := Lib.hid (HB.out.trans (hb.mono HB.out.size))
          clear KP ho hb hc HB
          go_wp2_with fail
          go_roundw
          case rel => exact ⟨j + 1, by go_num, by omega, HO2.out, HB2.out⟩
          case measure => simp [intOf]; omega
        · obtain rfl : j = M := by omega
          have HP : Hid (OwnB w V.bytes u6 wr) := Lib.hid (by
            have := HO.out
            rw [← HM.out, List.take_length, ← HBY.out] at this
            exact this)
          clear HO HB
          go_wp2_with fail
          go_ret
          exact ⟨_, rfl, HP.out⟩
end Go.Proofs.Ytkmonecolkamjaa
