/- The walk of CodecTells: a beginning of a frame is too short; a frame one bit of whose content was turned is none. Conditions: the table of Sum reads as the program's text lays it. -/
import Derived.Test.YtemeimcncddkjaaDoorCodecShort
import Derived.Test.YtemeimcncddkjaaDoorTellsPlain
import Derived.Test.YtemeimcncddkjaaDoorUnframe
set_option maxRecDepth 100000
namespace Go.Proofs.YtemeimcncddkjaaDoor
open Go.RowKit Go.Maps Go.Sort

/-- a copy of bytes, and two more behind it -/
theorem copy_12 {w : World} {v : Value} {l : List UInt8} (h : Holds w v (u8s l)) (hl : l.length ≤ 1000000) :
    ∃ v2 w2 v3 w3, Hid (∀ ty, (Builtin.append_ #[22, 22] ty #[.slice (some ⟨w.heap.size, 0, none⟩) 0 0, v]).run Tryd.prog (w.alloc (.cells #[] 5)) = .ok v2 w2) ∧
      Hid (∀ ty, (Builtin.append_ #[22, 22] ty #[v2, .slice (some ⟨w2.heap.size, 0, none⟩) 2 2]).run Tryd.prog (w2.alloc (.cells #[.int .u8 1, .int .u8 2] 5)) = .ok v3 w3) ∧
      Hid (w3.ownsRow w.heap.size 5 1 v3 (l ++ [1, 2]).length (u8s (l ++ [1, 2]))) ∧ Hid (Below w.heap.size w w3) := by
  have hb1 := below1 w (.cells #[] 5)
  have hr1 := World.ownsRow_made w (base := w.heap.size) (e := 5) (size := 1) #[] 0 (Nat.le_refl _) (by unfold maxLen; omega) (by simp)
  obtain ⟨v2, w2, r, o, g, b⟩ := app8 (xs := []) hr1 hb1.size (h.below hb1) (by simp; omega)
  have hb2 : Below w.heap.size w w2 := hb1.trans (below_grown g hb1.size (fun k e => by simp [Value.ownBlock] at e; omega))
  rw [List.nil_append] at o
  have hb3 : Below w.heap.size w (w2.alloc (.cells #[.int .u8 1, .int .u8 2] 5)) := hb2.alloc hb2.size _
  obtain ⟨v3, w3, r3, o3, g3, b3⟩ := app8 (o.alloc (.cells #[.int .u8 1, .int .u8 2] 5)) hb3.size (new_holds w2 _ _ _ (u8s [1, 2]) 2 rfl rfl) (by simp; omega)
  exact ⟨v2, w2, v3, w3, r, r3, o3, hb3.trans (below_grown g3 hb3.size (ownsRow_ge o))⟩

/-- a beginning of a frame -/
theorem tells_cut {w : World} {a : Option Addr} {c : Nat} {b : List UInt8} (hb : b.length ≤ 262144) (h : Holds w (.slice a (b.length + 8) c) (u8s (frameL b))) (m : Nat) (hm : m < b.length + 8) :
    Calls Tryd.prog 37 #[.slice a m c] w fun e w' => e = .returned (.tuple #[.slice none 0 0, .int .i64 0, .int .i64 10]) ∧ Below w.heap.size w w' := by
  refine Unframe_panic 10 (by omega) fun W hW => ?_
  have hl := frameL_len b
  by_cases h4 : m < 4
  · exact read_short a m c h4
  · obtain ⟨p1, _⟩ := frame_parts b [] hb
    rw [List.append_nil] at p1
    have e : ((frameL b).take m).take 4 = (frameL b).take 4 := by rw [List.take_take, Nat.min_eq_left (by omega)]
    exact read_cut (l := (frameL b).take m) (hold_take (h.below hW) m (by omega)) (by rw [List.length_take]; omega) (by omega) (by omega) (by rw [e, p1]; exact hb) (by rw [e, p1]; exact hm)
/-- a frame, and more -/
theorem tells_whole {w : World} (hq : Quads w) {a : Option Addr} {n c : Nat} {b ext : List UInt8} (hb : b.length ≤ 262144) (he : ext.length ≤ 2) (hn : n = (frameL b ++ ext).length) (h : Holds w (.slice a n c) (u8s (frameL b ++ ext))) :
    Calls Tryd.prog 37 #[.slice a n c] w fun e w' => ∃ v, e = .returned (.tuple #[v, .int .i64 ((b.length : Int) + 8), .int .i64 0]) ∧ Hid (w'.ownsRow w.heap.size 5 1 v b.length (u8s b) ∧ Below w.heap.size w w') := by
  refine Unframe_val (fun W hW => ?_) (by omega)
  have hl := frameL_len b
  have hla : (frameL b ++ ext).length = b.length + 8 + ext.length := by rw [List.length_append, hl]
  obtain ⟨p1, p2, p3, p4⟩ := frame_parts b ext hb
  have := read_good (hq.below hW hq.1) (h.below hW) hn (by omega) (by rw [p1]; exact hb) (by rw [p1]; omega) (by rw [p1, p2, p3])
  rw [p1, p4] at this
  exact this
/-- a frame one byte of whose content was changed -/
theorem tells_turned {w : World} (hq : Quads w) {a : Option Addr} {c : Nat} {b : List UInt8} (hb : b.length ≤ 262144) (j : Nat) (hj : j < b.length) (x : UInt8) (hx : x ≠ b[j]) (h : Holds w (.slice a (b.length + 8) c) (u8s ((frameL b).set (4 + j) x))) :
    Calls Tryd.prog 37 #[.slice a (b.length + 8) c] w fun e w' => e = .returned (.tuple #[.slice none 0 0, .int .i64 0, .int .i64 8]) ∧ Below w.heap.size w w' := by
  refine Unframe_panic 8 (by omega) fun W hW => ?_
  have hl := frameL_len b
  obtain ⟨p1, p2⟩ := frame_turned b hb j hj x hx
  exact read_sum (hq.below hW hq.1) (h.below hW) (by rw [List.length_set, hl]) (by omega) (by rw [p1]; exact hb) (by rw [p1]; omega) (by rw [p1]; exact p2)
theorem turn_bit (o r : Nat) (ho : o < 256) (hr : r < 8) : IntKind.u8.wrap ((2 : Int) ^ r) = ((2 ^ r : Nat) : Int) ∧ bits .xor .u8 (o : Int) ((2 ^ r : Nat) : Int) = ((UInt8.ofNat (o ^^^ 2 ^ r)).toNat : Int) ∧ UInt8.ofNat (o ^^^ 2 ^ r) ≠ UInt8.ofNat o := by
  have : ∀ r : Nat, r < 8 → ∀ o : Nat, o < 256 → IntKind.u8.wrap ((2 : Int) ^ r) = ((2 ^ r : Nat) : Int) ∧ bits .xor .u8 (o : Int) ((2 ^ r : Nat) : Int) = ((UInt8.ofNat (o ^^^ 2 ^ r)).toNat : Int) ∧ UInt8.ofNat (o ^^^ 2 ^ r) ≠ UInt8.ofNat o := by decide +kernel
  exact this r hr o ho

theorem tells_long {w : World} (hq : Quads w) (a : Option Addr) (n c : Nat) (x y : Int) (h : 262144 < n) :
    Calls Tryd.prog 7 #[.slice a n c, .int .u64 x, .int .u64 y] w fun e w' => e = .returned (.bool true) ∧ Below w.heap.size w w' := by
  have HQ := Lib.hid hq
  clear hq
  go_enter Tryd.func7, Tryd.ntmps7
  go_wp2_with fail
  refine (Frame_long a n c h).mono ?_
  rintro e w1 ⟨rfl, rfl⟩
  go_wp2_with fail
  refine (lives_any HQ.out).mono ?_
  rintro e w2 ⟨rfl, hb⟩
  have HB := Lib.hid hb
  clear hb
  go_wp2_with fail
  go_ret
  exact ⟨rfl, HB.out⟩

set_option maxHeartbeats 1600000 in
theorem tells_main {w : World} (hq : Quads w) {a : Option Addr} {k : Nat} {l : List UInt8} (h : Holds w (.slice a l.length k) (u8s l)) (hl : l.length ≤ 262144) (cut bit : Nat) (hcut : cut < 18446744073709551616) (hbit : bit < 18446744073709551616) :
    Calls Tryd.prog 7 #[.slice a l.length k, .int .u64 (cut : Int), .int .u64 (bit : Int)] w fun e w' => e = .returned (.bool true) ∧ Below w.heap.size w w' := by
  have hF := Frame_any hq h hl
  rw [frameL_len] at hF
  have hcutU := fun (W : World) (a' : Option Addr) (c' : Nat) (hh : Holds W (.slice a' (l.length + 8) c') (u8s (frameL l))) => tells_cut hl hh (cut % (l.length + 8)) (Nat.mod_lt _ (by omega))
  have hwhole := fun (W : World) (a' : Option Addr) (c' : Nat) (hq : Quads W) (hh : Holds W (.slice a' (l.length + 10) c') (u8s (frameL l ++ [1, 2]))) => tells_whole hq (ext := [1, 2]) hl (by simp) (by rw [List.length_append, frameL_len]; simp) hh
  have hturn := fun (W : World) (a' : Option Addr) (c' : Nat) (hq : Quads W) (j : Nat) (hj : j < l.length) (x : UInt8) (hx : x ≠ l[j]) (hh : Holds W (.slice a' (l.length + 8) c') (u8s ((frameL l).set (4 + j) x))) => tells_turned hq hl j hj x hx hh
  obtain ⟨n, hn⟩ : ∃ n, n = l.length := ⟨_, rfl⟩
  simp only [← hn] at hF hcutU hwhole hl h ⊢
  have HF := Lib.hid hF
  have HC := Lib.hid hcutU
  have HWH := Lib.hid hwhole
  have HT := Lib.hid hturn
  have HQ := Lib.hid hq
  have H := Lib.hid h
  have HN := Lib.hid hn
  have m1 : (cut : Int).tmod ((n : Int) + 8) = ((cut % (n + 8) : Nat) : Int) := by rw [Int.tmod_eq_emod_of_nonneg (by omega)]; simp
  have m2 : cut % (n + 8) < n + 8 := Nat.mod_lt _ (by omega)
  have m3 : IntKind.u64.wrap ((n : Int) + 8) = (n : Int) + 8 := IntWalk.u64_in _ (by omega)
  generalize cut % (n + 8) = m at *
  clear hF hcutU hwhole hturn hq h hn
  go_enter Tryd.func7, Tryd.ntmps7
  go_wp2_with fail
  refine HF.out.mono ?_
  rintro e w1 ⟨v1, rfl, h1⟩
  have B1 := Lib.hid h1.out.2
  obtain ⟨g, cf, rfl, hg⟩ := row_form1 h1.out.1 (by omega)
  have O1 := Lib.hid h1.out.1
  have H1 : Hid (Holds w1 (.slice (some ⟨g, 0, none⟩) (n + 8) cf) (u8s (frameL l))) := Lib.hid (Holds.of_row (base := w.heap.size) (e := 5) (by rw [u8s_len, frameL_len, ← HN.out]; exact O1.out))
  have hcf := (H1.out.len).2
  clear h1
  go_wp2_with fail
  refine (HC.out _ _ _ H1.out).mono ?_
  rintro e w2 ⟨rfl, hb2⟩
  have O2 := Lib.hid (ownsRow_below O1.out hb2)
  have H2 := Lib.hid (H1.out.below hb2)
  have B2 := Lib.hid (B1.out.trans (hb2.mono B1.out.size))
  clear hb2
  obtain ⟨v3, w3, v4, w4, R3, R4, O4, B4⟩ := copy_12 H2.out (by rw [frameL_len, ← HN.out]; omega)
  obtain ⟨a4, c4, hf4, _⟩ := ownsRow_form O4.out
  have hl4 : (frameL l ++ [1, 2]).length = n + 10 := by rw [List.length_append, frameL_len, ← HN.out]; rfl
  rw [hl4] at hf4
  subst hf4
  have H4 := Lib.hid (Holds.of_row (base := w2.heap.size) (e := 5) (xs := u8s (frameL l ++ [1, 2])) (by rw [u8s_len]; exact O4.out))
  clear hl4
  go_wp2_with (first | (at_builtin; refine wpList_append_run rfl (.tmp 45) (.tmp 46) 22 rfl rfl rfl (R3.out _) ?_) | (at_builtin; refine wpList_append_run rfl (.tmp 47) (.tmp 48) 22 rfl rfl rfl (R4.out _) ?_))
  have B4' := Lib.hid (B2.out.trans (B4.out.mono B2.out.size))
  refine (HWH.out _ _ _ (HQ.out.below B4'.out HQ.out.1) H4.out).mono ?_
  rintro e w5 ⟨v5, rfl, h5⟩
  have O5 := Lib.hid (ownsRow_below O2.out (B4.out.trans (h5.out.2.mono B4.out.size)))
  have B5 := Lib.hid (B4'.out.trans (h5.out.2.mono B4'.out.size))
  obtain ⟨a5, c5, hf5, _⟩ := ownsRow_form h5.out.1
  subst hf5
  have H5 := Lib.hid (Holds.of_row (base := w4.heap.size) (e := 5) (xs := u8s l) (by rw [u8s_len, ← HN.out]; exact h5.out.1))
  clear h5
  go_wp2_with fail
  refine (Same_any H5.out (H.out.below B5.out)).mono ?_
  rintro e w5' ⟨rfl, rfl⟩
  rw [show decide (l = l) = true from decide_eq_true rfl]
  by_cases hn0 : n = 0
  · have t0 : ((n : Int) == 0) = true := by rw [beq_iff_eq]; omega
    go_wp2_with fail
    refine (lives_any (HQ.out.below B5.out HQ.out.1)).mono ?_
    rintro e w6 ⟨rfl, hb6⟩
    have B6 := Lib.hid (B5.out.trans (hb6.mono B5.out.size))
    clear hb6
    go_wp2_with fail
    go_ret
    exact ⟨rfl, B6.out⟩
  · have t0 : ((n : Int) == 0) = false := by rw [beq_eq_false_iff_ne]; omega
    have m4 : IntKind.u64.wrap (8 * (n : Int)) = 8 * (n : Int) := IntWalk.u64_in _ (by omega)
    have m5 : (bit : Int).tmod (8 * (n : Int)) = ((bit % (8 * n) : Nat) : Int) := by rw [Int.tmod_eq_emod_of_nonneg (by omega)]; simp
    have m6 : bit % (8 * n) < 8 * n := Nat.mod_lt _ (by omega)
    generalize bit % (8 * n) = kk at *
    have hj : kk / 8 < l.length := by rw [← HN.out]; omega
    have hlast := l[kk / 8].toNat_lt
    have H6 : Hid (Holds w5 (.slice (some ⟨g, 0, none⟩) (n + 8) cf) (u8s (frameL l))) := Lib.hid (Holds.of_row (base := w.heap.size) (e := 5) (by rw [u8s_len, frameL_len, ← HN.out]; exact O5.out))
    have hc5 : w5.cell? ⟨g, 4 + kk / 8, none⟩ = some (.int .u8 (l[kk / 8].toNat : Int)) := by
      have := H6.out.cell (j := 4 + kk / 8) (u := .int .u8 (l[kk / 8].toNat : Int)) (by rw [u8s, List.getElem?_map, List.getElem?_eq_getElem (by rw [frameL_len]; omega), frame_get l _ hj]; rfl)
      simpa [Addr.add_at] using this
    have hf5 : w5.frozen? ⟨g, 4 + kk / 8, none⟩ = false := by
      rcases O5.out.2 with ⟨h, _⟩ | ⟨g', cap', cur, hv, _, hh, _⟩
      · cases h
      · simp only [Value.slice.injEq, Option.some.injEq, Addr.mk.injEq, and_true, true_and] at hv
        obtain ⟨rfl, rfl⟩ := hv
        exact free_of_row hh _
    have hr8 : kk % 8 < 8 := by omega
    obtain ⟨x1, x2, x3⟩ := turn_bit l[kk / 8].toNat (kk % 8) hlast hr8
    have hne : UInt8.ofNat (l[kk / 8].toNat ^^^ 2 ^ (kk % 8)) ≠ l[kk / 8] := by simpa using x3
    have hset := row_set (j := 4 + kk / 8) O5.out (.int .u8 ((UInt8.ofNat (l[kk / 8].toNat ^^^ 2 ^ (kk % 8))).toNat : Int))
    have es : (u8s (frameL l)).set (4 + kk / 8) (.int .u8 ((UInt8.ofNat (l[kk / 8].toNat ^^^ 2 ^ (kk % 8))).toNat : Int)) = u8s ((frameL l).set (4 + kk / 8) (UInt8.ofNat (l[kk / 8].toNat ^^^ 2 ^ (kk % 8)))) := by simp [u8s, List.map_set]
    rw [es] at hset
    have B6 := Lib.hid (B5.out.setCell (p := ⟨g, 4 + kk / 8, none⟩) hg (.int .u8 ((UInt8.ofNat (l[kk / 8].toNat ^^^ 2 ^ (kk % 8))).toNat : Int)))
    have H7 := Lib.hid (Holds.of_row (base := w.heap.size) (e := 5) (xs := u8s ((frameL l).set (4 + kk / 8) (UInt8.ofNat (l[kk / 8].toNat ^^^ 2 ^ (kk % 8))))) (by rw [u8s_len, List.length_set, frameL_len, ← HN.out]; exact hset))
    have hu := HT.out _ _ cf (HQ.out.below B6.out HQ.out.1) (kk / 8) hj _ hne (by rw [← HN.out]; exact H7.out)
    rw [← HN.out] at hu
    have HU := Lib.hid hu
    clear hset es x3 hne hu H7
    generalize (UInt8.ofNat (l[kk / 8].toNat ^^^ 2 ^ (kk % 8))).toNat = nb at *
    generalize l[kk / 8].toNat = old at *
    have q1 : (kk : Int) / 8 = ((kk / 8 : Nat) : Int) := by omega
    have q2 : (kk : Int).tmod 8 = ((kk % 8 : Nat) : Int) := by rw [Int.tmod_eq_emod_of_nonneg (by omega)]; omega
    have q3 : kk / 8 < n := by omega
    generalize kk / 8 = j at *
    generalize kk % 8 = r at *
    generalize ((2 ^ r : Nat) : Int) = sb at *
    go_wp2_with fail
    refine HU.out.mono ?_
    rintro e w7 ⟨rfl, hb7⟩
    have B7 := Lib.hid (B6.out.trans (hb7.mono B6.out.size))
    clear hb7
    go_wp2_with fail
    refine (lives_any (HQ.out.below B7.out HQ.out.1)).mono ?_
    rintro e w8 ⟨rfl, hb8⟩
    have B8 := Lib.hid (B7.out.trans (hb8.mono B7.out.size))
    clear hb8
    go_wp2_with fail
    go_ret
    exact ⟨rfl, B8.out⟩
end Go.Proofs.YtemeimcncddkjaaDoor
