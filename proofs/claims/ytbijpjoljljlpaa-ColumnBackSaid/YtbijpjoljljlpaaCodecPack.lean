/- Contract of codec.Pack. Conditions: small lists. -/
import Derived.Test.YtbijpjoljljlpaaPackPlain
import Derived.Test.YtbijpjoljljlpaaRangeOps
import Derived.Test.YtbijpjoljljlpaaCodecPut
import Derived.Test.YtbijpjoljljlpaaShelf
set_option maxRecDepth 100000
namespace Go.Proofs.Ytbijpjoljljlpaa
open Go.RowKit Go.Maps Go.Sort
attribute [local go_sem] Oper.semAt_some

def nats (l : List UInt64) : List Nat := l.map UInt64.toNat

/-- where Pack stands ahead of a number -/
structure PackW (w : World) (m N : Nat) (W : World) (ds : List Deferred) : Prop where
  bytes : W.heap[w.heap.size]? = some (.cells (u8s (bytesN m N)).toArray 5 (0, 0))
  box : W.heap[w.heap.size + 1]? = some (.cells #[.slice (some ⟨w.heap.size, 0, none⟩) m m] 28 (0, 0))
  below : Below w.heap.size w W
  marks : Marks (w.heap.size + 2) W ds
  size : w.heap.size + 2 ≤ W.heap.size

/-- where Pack stands among the steps of a number: its box, and the two of steps, lie from B on -/
structure PackJ (w : World) (B m wd f u P : Nat) (ds : List Deferred) (k : Nat) (X : World) : Prop where
  main : PackW w m (P + u % 2 ^ (doneAt f wd k) * 2 ^ f) X ds
  bu : X.heap[B]? = some (.cells #[.int .u64 (u : Int)] 44 (0, 0))
  bf : X.heap[B + 1]? = some (.cells #[.int .i64 (f : Int)] 3 (0, 0))
  bw : X.heap[B + 2]? = some (.cells #[.int .i64 (wd : Int)] 3 (0, 0))

theorem PackJ.own {w : World} {B m wd f u P S : Nat} {ds : List Deferred} (hds : ∀ d ∈ ds, ∀ D, d.target = .collected D → D < S) (hB : B + 3 ≤ S) (hw : w.heap.size + 2 ≤ S) : OwnFrom S (PackJ w B m wd f u P ds) := by
  intro k X Y row h hg hr
  have hr' : ∀ r, row = some r → S ≤ r := fun r e => (hr r e).1
  refine ⟨⟨heap_grown hg h.main.bytes (by omega) hr', heap_grown hg h.main.box (by omega) hr', ?_, ?_, Nat.le_trans h.main.size hg.size⟩, heap_grown hg h.bu (by omega) hr', heap_grown hg h.bf (by omega) hr', heap_grown hg h.bw (by omega) hr'⟩
  · exact h.main.below.trans (below_grown hg h.main.below.size (fun g e => by have := hr' g e; omega))
  · exact h.main.marks.kept (fun D hD hd ⟨d, hm, ht⟩ => heap_grown hg hd (hds d hm D ht) hr')

/-- one byte is stored -/
theorem PackJ.step {w : World} {B m wd f u P : Nat} {ds : List Deferred} {k i N : Nat} {X : World} {nb : UInt8} (h : PackJ w B m wd f u P ds k X) (hB : w.heap.size + 2 ≤ B)
    (hm : X.heap[w.heap.size]? = some (.cells (u8s (bytesN m N)).toArray 5 (0, 0))) (hs : (bytesN m N).set i nb = bytesN m (P + u % 2 ^ (doneAt f wd (k + 1)) * 2 ^ f)) (S : Nat) :
    KeepsFrom S X (X.setCell ⟨w.heap.size, i, none⟩ (.int .u8 (nb.toNat : Int))).drew ∧ PackJ w B m wd f u P ds (k + 1) (X.setCell ⟨w.heap.size, i, none⟩ (.int .u8 (nb.toNat : Int))).drew := by
  have hk := (KeepsOthers.setCell X ⟨w.heap.size, i, none⟩ (.int .u8 (nb.toNat : Int))).from
  refine ⟨(hk S).trans (keeps_drew _ _), ⟨?_, heap_other h.main.box (by omega), ?_, ?_, ?_⟩, heap_other h.bu (by omega), heap_other h.bf (by omega), heap_other h.bw (by omega)⟩
  · have := heap_set hm (j := i) (.int .u8 (nb.toNat : Int))
    rw [← hs]
    refine this.trans ?_
    congr 2
    apply Array.toList_inj.1
    simp [u8s, List.map_set]
  · exact (h.main.below.setCell (p := ⟨w.heap.size, i, none⟩) (Nat.le_refl _) _).drew
  · exact (h.main.marks.keepsFrom (hk _)).keepsFrom (keeps_drew _ _)
  · have := (hk 0).size; exact Nat.le_trans h.main.size this

theorem alloc3 (W : World) (A B C : Obj) : (((W.alloc A).alloc B).alloc C).heap[W.heap.size]? = some A ∧ (((W.alloc A).alloc B).alloc C).heap[W.heap.size + 1]? = some B ∧ (((W.alloc A).alloc B).alloc C).heap[W.heap.size + 2]? = some C := by
  refine ⟨?_, ?_, ?_⟩
  · exact (Below.heap_alloc _ _ _ (by simp; omega)).trans ((Below.heap_alloc _ _ _ (by simp)).trans (alloc1 _ _))
  · have := alloc1 (W.alloc A) B
    exact (Below.heap_alloc _ _ _ (by simp)).trans (by simpa using this)
  · have := alloc1 ((W.alloc A).alloc B) C
    simpa using this

theorem PackW.more {w W W' : World} {m N : Nat} {ds : List Deferred} (h : PackW w m N W ds) (hb : Below W.heap.size W W') : PackW w m N W' ds := by
  have hs := h.size
  exact ⟨(hb.block _ (by omega)).trans h.bytes, (hb.block _ (by omega)).trans h.box, h.below.trans (hb.mono h.below.size), h.marks.kept (fun D _ hd _ => (hb.block _ (Array.getElem?_eq_some_iff.1 hd).1).trans hd), Nat.le_trans hs hb.size⟩

theorem stepsE_get {f w k : Nat} (hk : k < (stepsE f w).length) : ∃ d at', (stepsL f w 0)[k]? = some (d, at') ∧ (stepsE f w)[k] = #[Value.int .i64 (d : Int), Value.int .i64 (at' : Int)] := by
  have hk2 : k < (stepsL f w 0).length := by simpa [stepsE] using hk
  exact ⟨(stepsL f w 0)[k].1, (stepsL f w 0)[k].2, List.getElem?_eq_getElem hk2, by simp [stepsE, stepE]⟩

set_option maxHeartbeats 400000 in
theorem Pack_main {w : World} {v : Value} {l : List UInt64} (h : Holds w v (u64s l)) (hl : l.length ≤ 1000000) (wd : Nat) (hw : wd ≤ 64) (hfit : ∀ u ∈ l, Lib.bitLen u.toNat ≤ wd) (hfit2 : ∀ u ∈ l, u.toNat < 2 ^ wd) :
    Calls Try.prog 24 #[.int .i64 (wd : Int), v] w fun e w' => ∃ v', e = .returned (.tuple #[v', .int .i64 0]) ∧ Hid (w'.ownsRow w.heap.size 5 1 v' ((wd * l.length + 7) / 8) (u8s (bytesN ((wd * l.length + 7) / 8) (bigN wd (nats l)))) ∧ Below w.heap.size w w') := by
  obtain ⟨a, c, hv, hc⟩ := h.form
  rw [u64s_len] at hv hc
  subst hv
  have H := Lib.hid h
  generalize hn : l.length = n at *
  have HN := Lib.hid hn
  have HF := Lib.hid hfit
  clear h hn hfit
  refine (callsIn_wide (n := 0)).1 ?_
  refine callsIn_of_wp_marks Try.func24 rfl trivial ?_ rfl
  simp only [Try.ntmps24, List.size_toArray, List.length_cons, List.length_nil, Nat.reduceAdd, Nat.reduceSub, Array.replicate_succ, Array.replicate_zero, List.push_toArray, List.append_toArray, List.nil_append, List.cons_append]
  have t1 : decide ((wd : Int) < 0) = false := decide_eq_false (by omega)
  have t2 : decide ((64 : Int) < (wd : Int)) = false := decide_eq_false (by omega)
  gi_wp2
  gi_loop [21] (fun i => ∃ k : Nat, i = .int .i64 k ∧ k ≤ n) (fun i => n - (intOf i).toNat)
  case atStart => exact ⟨0, rfl, by omega⟩
  case round =>
    obtain ⟨k, rfl, hk⟩ := hrel
    by_cases hlt : k < n
    · have hkl : k < l.length := by rw [HN.out]; exact hlt
      obtain ⟨ad, rfl⟩ := H.out.ptr (by omega)
      have hc : w.cell? (ad.add k) = some (.int .u64 (l[k].toNat : Int)) := H.out.cell (by simp [u64s, hkl])
      have hx := l[k].toNat_lt
      have hf := HF.out l[k] (List.getElem_mem _)
      generalize l[k].toNat = x at *
      gi_wp2_with fail
      refine ⟨trivial, rfl, (callsIn_wide.2 (Try.bits_Len64 (x : Int) _ (by omega) (by omega))).mono ?_⟩
      rintro e w' ⟨rfl, rfl⟩
      rw [Int.toNat_natCast]
      gi_wp2_with fail
      go_round
      case rel => exact ⟨k + 1, by go_num, by omega⟩
      case measure => simp [intOf]; omega
    · gi_wp2_with fail
      refine ⟨trivial, rfl, (callsIn_wide.2 (packedBytes_any wd n hw (by omega) _)).mono ?_⟩
      rintro e w' ⟨rfl, rfl⟩
      have hle : wd * n ≤ 64 * 1000000 := Nat.mul_le_mul hw hl
      generalize hm : (wd * n + 7) / 8 = m at *
      have hmk := mk8 w (m : Int) (m : Int) m m rfl rfl (Nat.le_refl _) (by omega)
      gi_wp2_with fail
      refine wpIn_loop (fun A W => ∃ (j : Nat) (u9 u10 u38 u39 u40 u41 u42 u43 u44 u45 u46 u63 : Value) (ds : List Deferred), j ≤ n ∧
        A = { tmps := #[Value.int IntKind.i64 ↑wd, Value.slice a n c, undef, undef, u4, u5, undef, u7,
          Value.pointer (some { block := w.heap.size + 1, off := 0 }), u9, u10, undef, undef,
          Value.int IntKind.i64 ↑wd, Value.bool false, Value.bool false, Value.int IntKind.i64 ↑wd, Value.bool false,
          Value.bool false, Value.slice a n c, Value.int IntKind.i64 ↑n, Value.int IntKind.i64 ↑k, Value.bool false,
          u23, u24, u25, u26, u27, u28, u29, Value.int IntKind.i64 ↑wd, Value.slice a n c, Value.int IntKind.i64 ↑n,
          Value.int IntKind.i64 ↑m, Value.slice (some { block := w.heap.size, off := 0 }) m m, Value.slice a n c,
          Value.int IntKind.i64 ↑n, Value.int IntKind.i64 ↑j, u38, u39, u40, u41, u42, u43, u44, u45, u46, undef,
          undef, undef, undef, undef, undef, undef, undef, undef, undef, undef, undef, undef, undef, undef, undef,
          u63, undef], defers := ds } ∧ Hid (PackW w m (bigN wd (nats (l.take j))) W ds)) (fun A _ => n - (intOf (A.tmps.getD 37 undef)).toNat) ?_ ?_
      · exact ⟨0, _, _, _, _, _, _, _, _, _, _, _, _, [], by omega, rfl, by
          refine ⟨?_, ?_, ?_, trivial, ?_⟩
          · rw [show bigN wd (nats (l.take 0)) = 0 from rfl, bytesN_zero]
            exact (Below.heap_alloc _ _ _ (by simp)).trans (alloc1 _ _)
          · have := alloc1 (w.alloc (Obj.cells (u8s (List.replicate m 0)).toArray 5)) (Obj.cells #[Value.slice (some { block := w.heap.size, off := 0 }) m m] 28)
            simpa using this
          · exact ((Below.refl _ _).alloc (Nat.le_refl _) _).alloc (by simp) _
          · simp⟩
      · rintro A W ⟨j, u9, u10, u38, u39, u40, u41, u42, u43, u44, u45, u46, u63, ds, hj, rfl, HP⟩
        by_cases hjn : j < n
        · have hkl : j < l.length := by rw [HN.out]; exact hjn
          obtain ⟨ad, rfl⟩ := H.out.ptr (by omega)
          have hc : W.cell? (ad.add j) = some (.int .u64 (l[j].toNat : Int)) := (H.out.below HP.out.below).cell (by simp [u64s, hkl])
          have hx := l[j].toNat_lt
          have hprod : (j : Int) * (wd : Int) = ((wd * j : Nat) : Int) := by rw [Int.natCast_mul, Int.mul_comm]
          have hple : wd * j ≤ 64 * 1000000 := Nat.mul_le_mul hw (by omega)
          generalize hu : l[j].toNat = u at *
          generalize hf : wd * j = f at *
          have hu2 : u < 2 ^ wd := by rw [← hu]; exact hfit2 _ (List.getElem_mem _)
          have HU := Lib.hid hu
          have HFF := Lib.hid hf
          clear hu hf
          gi_wp2_with fail
          refine ⟨trivial, rfl, (callsIn_wide.2 (steps_any _ _ _)).mono ?_⟩
          rintro e w' ⟨rfl, rfl⟩
          gi_wp2_with fail
          have hsz := HP.out.size
          have hx64 : u < 18446744073709551616 := hx
          have hps : (((W.alloc (Obj.cells #[Value.int IntKind.u64 ↑u] 44)).alloc (Obj.cells #[Value.int IntKind.i64 ↑f] 3)).alloc (Obj.cells #[Value.int IntKind.i64 ↑wd] 3)).heap.size = W.heap.size + 3 := by simp
          have hJ0 : PackJ w W.heap.size m wd f u (bigN wd (nats (l.take j))) ds 0 (((W.alloc (Obj.cells #[Value.int IntKind.u64 ↑u] 44)).alloc (Obj.cells #[Value.int IntKind.i64 ↑f] 3)).alloc (Obj.cells #[Value.int IntKind.i64 ↑wd] 3)) := by
            obtain ⟨a1, a2, a3⟩ := alloc3 W (Obj.cells #[Value.int IntKind.u64 ↑u] 44) (Obj.cells #[Value.int IntKind.i64 ↑f] 3) (Obj.cells #[Value.int IntKind.i64 ↑wd] 3)
            refine ⟨?_, a1, a2, a3⟩
            have e : u % 2 ^ doneAt f wd 0 * 2 ^ f = 0 := by
              rcases doneAt_zero f wd u hu2 with e | ⟨_, e⟩
              · rw [e, Nat.zero_mul]
              · rw [e, Nat.zero_mod, Nat.zero_mul]
            rw [e, Nat.add_zero]
            exact HP.out.more ((((Below.refl _ _).alloc (Nat.le_refl _) _).alloc (by simp) _).alloc (by simp; omega) _)
          have hlt : ∀ d ∈ ds, ∀ D, d.target = .collected D → D < W.heap.size + 3 := fun d hd D hD => by have := HP.out.marks.lt d hd D hD; omega
          generalize ((W.alloc (Obj.cells #[Value.int IntKind.u64 ↑u] 44)).alloc (Obj.cells #[Value.int IntKind.i64 ↑f] 3)).alloc (Obj.cells #[Value.int IntKind.i64 ↑wd] 3) = W3 at *
          refine range_law (gf := 48) (lb := #[Value.pointer (some { block := W.heap.size + 1 + 1, off := 0 }), Value.pointer (some { block := W.heap.size + 1, off := 0 })]) rfl (enters_of Try.func48 (by kernel_rfl) rfl)
            (encs := stepsE f wd) (fun x hx => by obtain ⟨p, _, rfl⟩ := List.mem_map.1 hx; rfl) (steps_seq _ _ wd f hw (by omega))
            (PackJ w W.heap.size m wd f u (bigN wd (nats (l.take j))) ds) (PackJ.own (by rw [hps]; exact hlt) (by omega) (by omega)) (fun k X h => ⟨by rw [cell_of_row _ _ _ _ _ _ h.bw]; rfl, by rw [cell_of_row _ _ _ _ _ _ h.bf]; rfl⟩) hJ0
            (fun s X => PackJ w W.heap.size m wd f u (bigN wd (nats (l.take j))) ds s.1 X ∧ ∃ d at', (stepsL f wd 0)[s.1]? = some (d, at') ∧
              s.2 = { tmps := #[Value.int IntKind.i64 ↑wd, Value.slice (some ad) n c, undef, undef, u4, u5, undef, u7,
          Value.pointer (some { block := w.heap.size + 1, off := 0 }), Value.int IntKind.i64 ↑j,
          Value.pointer (some { block := W.heap.size, off := 0 }), Value.int IntKind.i64 (d : Nat), Value.int IntKind.i64 (at' : Nat), Value.int IntKind.i64 ↑wd,
          Value.bool false, Value.bool false, Value.int IntKind.i64 ↑wd, Value.bool false, Value.bool false,
          Value.slice (some ad) n c, Value.int IntKind.i64 ↑n, Value.int IntKind.i64 ↑k, Value.bool false, u23, u24,
          u25, u26, u27, u28, u29, Value.int IntKind.i64 ↑wd, Value.slice (some ad) n c, Value.int IntKind.i64 ↑n,
          Value.int IntKind.i64 ↑m, Value.slice (some { block := w.heap.size, off := 0 }) m m,
          Value.slice (some ad) n c, Value.int IntKind.i64 ↑n, Value.int IntKind.i64 ↑j, Value.bool true,
          Value.int IntKind.i64 ↑j, Value.pointer (some (ad.add j)), Value.int IntKind.u64 ↑u, Value.int IntKind.i64 ↑j,
          Value.int IntKind.i64 ↑wd, Value.int IntKind.i64 ↑f, Value.int IntKind.i64 ↑wd,
          Value.func (Fn.func 48) #[]
            #[Value.pointer (some { block := W.heap.size + 1 + 1, off := 0 }),
              Value.pointer (some { block := W.heap.size + 1, off := 0 })],
          Value.int IntKind.i64 (d : Nat), Value.int IntKind.i64 (at' : Nat), undef, undef, undef, undef, undef, undef, undef, undef, undef, undef, undef, undef, undef,
          undef, u63, undef], defers := [] }) ?hM ?assign ?body ?done
          case hM =>
            intro s X Y row h hg hr
            refine ⟨PackJ.own (by rw [hps]; exact hlt) (by omega) (by omega) s.1 X Y row h.1 hg hr, h.2⟩
          case assign =>
            intro l' q hq X K h hK
            obtain ⟨d, at', hget, e⟩ := stepsE_get hq
            rw [e]
            have HK := Lib.hid hK
            have HG := Lib.hid hget
            have HP2 := Lib.hid h
            clear hK e hget h
            simp only [List.zip_toArray, List.zip_cons_cons, List.zip_nil_right, List.foldl_toArray, List.foldl_cons, List.foldl_nil, List.setIfInBounds_toArray, List.set_cons_succ, List.set_cons_zero]
            gi_wp2
            exact HK.out _ _ (KeepsFrom.refl _ _) ⟨HP2.out, d, at', HG.out, rfl⟩
          case body =>
            rintro l' q hq a₁ X ⟨h, d, at', hget, rfl⟩
            obtain ⟨e1, rfl, hdw, e2⟩ := doneAt_step f wd u q d at' hw hu2 hget
            have hmain := h.main.bytes
            rw [e1] at hmain
            have hP : bigN wd (nats (l.take j)) < 2 ^ f := by
              have := bigN_lt wd (nats (l.take j)) (fun u' hu' => by
                obtain ⟨x, hx1, rfl⟩ := List.mem_map.1 hu'
                exact hfit2 x (List.mem_of_mem_take hx1))
              rw [show (nats (l.take j)).length = j by simp [nats]; omega, HFF.out] at this
              exact this
            obtain ⟨s1, s2⟩ := pack_step m (bigN wd (nats (l.take j))) f u d hP _ rfl
            have hat : (f + d) / 8 < m := by
              have h1 : f + wd ≤ wd * n := by
                rw [← HFF.out, ← Nat.mul_succ]; exact Nat.mul_le_mul_left _ (by omega)
              omega
            have c1 : X.cell? ⟨w.heap.size + 1, 0, none⟩ = some (.slice (some ⟨w.heap.size, 0, none⟩) m m) := by rw [cell_of_row _ _ _ _ _ _ h.main.box]; rfl
            have c2 : X.cell? ⟨W.heap.size, 0, none⟩ = some (.int .u64 (u : Int)) := by rw [cell_of_row _ _ _ _ _ _ h.bu]; rfl
            generalize bigN wd (nats (l.take j)) = P at *
            generalize hold : (P + u % 2 ^ d * 2 ^ f) / 256 ^ ((f + d) / 8) = old at *
            have hold2 : old < 256 := Nat.lt_of_lt_of_le s1 (Nat.pow_le_pow_right (n := 2) (by omega) (show (f + d) % 8 ≤ 8 by omega))
            have c3 : X.cell? ⟨w.heap.size, (f + d) / 8, none⟩ = some (.int .u8 (old : Int)) := by
              rw [cell_of_row _ _ _ _ _ _ hmain]
              simp [u8s, bytesN, hat, hold]
              omega
            have c4 := free_of_row hmain ((f + d) / 8)
            generalize hT : f + d = t at *
            have q3 : IntKind.i64.wrap ((t : Int) / 8) = ((t / 8 : Nat) : Int) := by rw [IntWalk.i64_in _ (by omega)]; omega
            have q5 : (t : Int).tmod 8 = ((t % 8 : Nat) : Int) := by rw [Int.tmod_eq_emod_of_nonneg (by omega)]; omega
            have q7 : t % 8 < 8 := by omega
            have y1 : IntKind.u8.wrap ((u : Int) / 2 ^ d) = ((u / 2 ^ d % 256 : Nat) : Int) := by
              rw [IntKind.wrap_u8]; simp
            obtain ⟨y2, y3⟩ := pack_or (u / 2 ^ d) old (t % 8) q7 s1
            generalize hNB : UInt8.ofNat (old + u / 2 ^ d % 2 ^ (8 - t % 8) * 2 ^ (t % 8)) = nb at *
            generalize u / 2 ^ d % 2 ^ (8 - t % 8) * 2 ^ (t % 8) = z at *
            generalize u / 2 ^ d % 256 = y at *
            clear hNB
            generalize t / 8 = i8 at *
            generalize t % 8 = r8 at *
            have hmix : Try.prog.follows .mixedOrders = true := by kernel_rfl
            have HT := Lib.hid hT
            clear hT
            have HM := Lib.hid hmain
            have HH := Lib.hid h
            have S2 := Lib.hid s2
            have E2 := Lib.hid e2
            clear hmain h s2 e2 hold
            gi_wp2
            refine round_still_tail 14 hmix (by decide +kernel) (fun ⟨_, _, h⟩ => h) (by kernel_rfl) ?_
            simp only [List.take_succ_cons, List.take_zero, List.drop_succ_cons, List.drop_zero]
            repeat still_step
            try refine wpStill_nil ?_
            go_wp2
            exact HH.out.step (by omega) HM.out (by rw [E2.out]; exact S2.out) _
          case done =>
            intro X h hD
            have HX := Lib.hid (And.intro h hD)
            clear h hD
            gi_wp2
            refine ⟨⟨j + 1, _, _, _, _, _, _, _, _, _, _, _, _, _ :: ds, by omega, rfl, ?_⟩, by simp [intOf]; omega⟩
            obtain ⟨h, hD⟩ := HX.out
            have e : bigN wd (nats (l.take (j + 1))) = bigN wd (nats (l.take j)) + u % 2 ^ doneAt f wd (stepsE f wd).length * 2 ^ f := by
              rw [doneAt_end f wd _ (by simp [stepsE]), Nat.mod_eq_of_lt (show u < 2 ^ 64 by omega), List.take_succ_eq_append_getElem hkl]
              unfold nats
              rw [List.map_append, List.map_singleton, bigN_snoc, HU.out, List.length_map, List.length_take, Nat.min_eq_left (by omega), HFF.out]
            rw [e]
            exact ⟨h.main.bytes, h.main.box, h.main.below, ⟨_, rfl, by omega, hD, fun d' hd' e' => by have := hlt d' hd' _ e'; omega, h.main.marks⟩, h.main.size⟩
        · have cb : W.cell? ⟨w.heap.size + 1, 0, none⟩ = some (.slice (some ⟨w.heap.size, 0, none⟩) m m) := by rw [cell_of_row _ _ _ _ _ _ HP.out.box]; rfl
          have E := Lib.hid HP.out
          clear HP
          have HT : Hid (l.take j = l) := Lib.hid (List.take_of_length_le (by rw [HN.out]; omega))
          have HM := Lib.hid hm
          clear hm
          gi_wp2_with fail
          refine leave_marks (v := .tuple #[.slice (some ⟨w.heap.size, 0, none⟩) m m, .int .i64 0]) (fun w' => by simp [results, Try.results24, go_sem]) ds W E.out.marks (fun W' hs => ?_)
          refine ⟨_, rfl, ?_, E.out.below.trans (hs.below.mono (by omega))⟩
          rw [HM.out]
          have hb := hs.cells E.out.bytes
          rw [HT.out] at hb
          exact ⟨by simp [u8s, bytesN], .inr ⟨_, m, _, rfl, Nat.le_refl _, hb, Nat.le_refl _, by have := HM.out; unfold maxLen; omega, by simp [u8s, bytesN], List.take_of_length_le (by simp [u8s, bytesN])⟩⟩
end Go.Proofs.Ytbijpjoljljlpaa
