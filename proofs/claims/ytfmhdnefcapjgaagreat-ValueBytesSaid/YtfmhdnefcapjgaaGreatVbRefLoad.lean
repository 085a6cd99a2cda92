/- Contract of the document's own Load of values at any bytes. Conditions: at most 10^6 bytes. -/
import Derived.Test.YtfmhdnefcapjgaaGreatVbRefBytes
import Derived.Test.YtfmhdnefcapjgaaGreatCodecRefGet
set_option maxRecDepth 100000
namespace Go.Proofs.YtfmhdnefcapjgaaGreat
open Go.RowKit Go.Maps Go.Sort Go.Lib

/-- whichever good values the bytes are of: they begin with those that were read, and the rest is what is left -/
def KeyR (whole : List UInt8) (acc : List VV) (rest : List UInt8) : Prop :=
  ∀ ws : List VV, (∀ x ∈ ws, x.good = true ∧ x.inI) → ws.length < 18446744073709551616 → whole = bytesV ws → ∃ ws', ws = acc ++ ws' ∧ rest = flatV ws'
theorem key_n {whole : List UInt8} {ws : List VV} (h2 : ws.length < 18446744073709551616) (h3 : whole = bytesV ws) : (getN whole).1 = ws.length ∧ (getN whole).2 ≠ 0 ∧ whole.drop (getN whole).2 = flatV ws := by
  subst h3
  unfold bytesV
  rw [get_app _ h2]
  refine ⟨rfl, ?_, List.drop_left⟩
  have := dig_pos ws.length
  simp only
  omega
theorem key_start (whole : List UInt8) : KeyR whole [] (whole.drop (getN whole).2) := fun ws _ h2 h3 => ⟨ws, rfl, (key_n h2 h3).2.2⟩
/-- what a good value's bytes tell of it -/
theorem okR_of {x : VV} (h : x.good = true) (hi : x.inI) (r : List UInt8) :
    (getN (x.bytes ++ r)).2 ≠ 0 ∧ (getN (x.bytes ++ r)).1 ≤ 4 ∧ ((getN (x.bytes ++ r)).1 ≠ 0 → (getN ((x.bytes ++ r).drop (getN (x.bytes ++ r)).2)).2 ≠ 0) ∧
    ((getN (x.bytes ++ r)).1 = 3 → (getN ((x.bytes ++ r).drop (getN (x.bytes ++ r)).2)).1 ≤ (x.bytes ++ r).length - ((getN (x.bytes ++ r)).2 + (getN ((x.bytes ++ r).drop (getN (x.bytes ++ r)).2)).2)) := by
  have hk := goodV_kind h
  have e : x.bytes ++ r = dig x.k.toNat ++ (x.body ++ r) := by unfold VV.bytes; rw [List.append_assoc]
  have g1 := get_app x.k.toNat (by omega) (x.body ++ r)
  have p1 := dig_pos x.k.toNat
  rw [← e] at g1
  have d1 : (x.bytes ++ r).drop (dig x.k.toNat).length = x.body ++ r := by rw [e]; exact List.drop_left
  rw [g1]
  simp only
  rw [d1]
  refine ⟨by omega, by omega, fun h0 => ?_, fun h3 => ?_⟩
  · have hb : ∃ u t, u < 18446744073709551616 ∧ x.body = dig u ++ t := by
      unfold VV.body
      rcases good_cases h with rfl | ⟨e, _⟩ | ⟨e, _⟩ | ⟨e, _, es⟩ | ⟨e, _⟩
      · simp [VV.none_] at h0
      · rw [if_pos (.inl e)]; exact ⟨_, [], (zig_zag _ hi.1 hi.2).2, (List.append_nil _).symm⟩
      · rw [if_pos (.inr (.inl e))]; exact ⟨_, [], (zig_zag _ hi.1 hi.2).2, (List.append_nil _).symm⟩
      · rw [if_neg (by omega), if_pos e]; exact ⟨_, _, by omega, rfl⟩
      · rw [if_pos (.inr (.inr e))]; exact ⟨_, [], (zig_zag _ hi.1 hi.2).2, (List.append_nil _).symm⟩
    obtain ⟨u, t, hu, hb⟩ := hb
    rw [hb, List.append_assoc, get_app u hu]
    have := dig_pos u
    simp only
    omega
  · have e3 : x.k = 3 := by omega
    rcases good_cases h with rfl | ⟨e, _⟩ | ⟨e, _⟩ | ⟨_, _, es⟩ | ⟨e, _⟩
    · simp [VV.none_] at e3
    · omega
    · omega
    · have hb : x.body = dig x.s.size ++ x.s.data.toList := by unfold VV.body; rw [if_neg (by omega), if_pos e3]
      rw [hb, List.append_assoc, get_app _ (by omega)]
      have hl := congrArg List.length e
      rw [hb] at hl
      simp only [List.length_append] at hl ⊢
      have := Lib.size_eq x.s
      omega
    · omega
/-- there is a value more, and it stands ahead -/
theorem key_more {whole rest : List UInt8} {acc ws : List VV} (h : KeyR whole acc rest) (h1 : ∀ x ∈ ws, x.good = true ∧ x.inI) (h2 : ws.length < 18446744073709551616) (h3 : whole = bytesV ws) (hlt : acc.length < (getN whole).1) :
    ∃ x r, ws = acc ++ x :: r ∧ rest = x.bytes ++ flatV r ∧ x.good = true ∧ x.inI := by
  obtain ⟨ws', e1, e2⟩ := h ws h1 h2 h3
  have hn := (key_n h2 h3).1
  cases ws' with
  | nil => rw [e1] at hn; simp at hn; omega
  | cons x r =>
    have hx := h1 x (by rw [e1]; simp)
    exact ⟨x, r, e1, by rw [e2, flatV_cons, norm_of hx.1], hx.1, hx.2⟩
theorem key_stop {whole rest : List UInt8} {acc : List VV} (h : KeyR whole acc rest) (hb : whole.length < 18446744073709551616) (hlt : acc.length < (getN whole).1)
    (hno : ∀ (x : VV) (r : List UInt8), x.good = true → x.inI → rest = x.bytes ++ r → False) : loadV whole = none :=
  (load_none hb).2 fun ws h1 h2 h3 => by
    obtain ⟨x, r, _, e, hg, hi⟩ := key_more h h1 h2 h3 hlt
    exact hno x _ hg hi e
theorem key_next {whole rest : List UInt8} {acc : List VV} (h : KeyR whole acc rest) (hlt : acc.length < (getN whole).1) : KeyR whole (acc ++ [(firstV rest).1]) (rest.drop (firstV rest).2) := fun ws h1 h2 h3 => by
  obtain ⟨x, r, e1, e2, hg, hi⟩ := key_more h h1 h2 h3 hlt
  have hf := first_good hg hi (flatV r)
  rw [← e2] at hf
  refine ⟨r, ?_, ?_⟩
  · rw [hf, e1]; simp
  · rw [hf, e2]; exact List.drop_left
/-- all of them were read: the bytes tell whether they are those -/
theorem key_end {whole rest : List UInt8} {acc : List VV} (h : KeyR whole acc rest) (hb : whole.length < 18446744073709551616) (hn : acc.length = (getN whole).1) (hg : ∀ x ∈ acc, x.good = true ∧ x.inI) : loadV whole = if bytesV acc = whole then some acc else none := by
  by_cases he : bytesV acc = whole
  · rw [if_pos he]
    exact (load_iff hb).2 ⟨hg, by rw [hn]; exact (getN_bound whole).2, he.symm⟩
  · rw [if_neg he]
    refine (load_none hb).2 fun ws h1 h2 h3 => ?_
    obtain ⟨ws', e1, _⟩ := h ws h1 h2 h3
    have := (key_n h2 h3).1
    rw [e1, List.length_append] at this
    have : ws' = [] := List.eq_nil_of_length_eq_zero (by omega)
    rw [this, List.append_nil] at e1
    exact he (by rw [← e1]; exact h3.symm)
theorem good_snoc {acc : List VV} {k n : Int} {s : ByteArray} (h : ∀ x ∈ acc, x.good = true ∧ x.inI) (hg : goodV k n s = true) (hi : VV.inI ⟨k, n, s⟩) : ∀ x ∈ acc ++ [⟨k, n, s⟩], VV.good x = true ∧ VV.inI x := fun x hx => by
  rcases List.mem_append.1 hx with hx | hx
  · exact h x hx
  · simp at hx; subst hx; exact ⟨hg, hi⟩
theorem len_lt {i m N : Nat} (h : i < N) (e : m = i) : m < N := by omega
theorem le_u64 {n : Nat} (h : n ≤ 1000000) : n < 18446744073709551616 := by omega
theorem wrap_m {m n : Nat} (h : m ≤ n) (h2 : n ≤ 1000000) : IntKind.u64.wrap (m : Int) = (m : Int) := by rw [IntKind.wrap_u64]; omega
theorem le_acc {i m N n : Nat} (e : m = i) (h : i < N) (h2 : N ≤ n) (h3 : n ≤ 1000000) : m ≤ 1000000000000 := by omega
theorem le_five {m n : Nat} (h : m ≤ n) (h2 : n ≤ 1000000) : m ≤ 1099511627776 := by omega
theorem first_null_eq {l : List UInt8} (hk : (getN l).1 = 0) : firstV l = (⟨0, 0, ⟨#[]⟩⟩, (getN l).2) := by
  unfold firstV
  dsimp only
  rw [hk, if_neg (by decide), if_neg (by decide)]
  rfl
theorem kind_cases {k : Nat} (h : k ≤ 4) : k = 0 ∨ k = 1 ∨ k = 2 ∨ k = 3 ∨ k = 4 := by omega
theorem stop_P {x : VV} {r rest : List UInt8} (h : x.good = true) (hi : x.inI) (e : rest = x.bytes ++ r) (hP : (getN rest).2 = 0) : False := by
  subst e; exact (okR_of h hi r).1 hP
theorem stop_K {x : VV} {r rest : List UInt8} (h : x.good = true) (hi : x.inI) (e : rest = x.bytes ++ r) (hK : 4 < (getN rest).1) : False := by
  subst e; have := (okR_of h hi r).2.1; omega
theorem stop_M {x : VV} {r rest : List UInt8} (h : x.good = true) (hi : x.inI) (e : rest = x.bytes ++ r) (hK : (getN rest).1 ≠ 0) (hM : (getN (rest.drop (getN rest).2)).2 = 0) : False := by
  subst e; exact (okR_of h hi r).2.2.1 hK hM
theorem stop_U {x : VV} {r rest : List UInt8} (h : x.good = true) (hi : x.inI) (e : rest = x.bytes ++ r) (hK : (getN rest).1 = 3) (hU : rest.length - ((getN rest).2 + (getN (rest.drop (getN rest).2)).2) < (getN (rest.drop (getN rest).2)).1) : False := by
  subst e; have := (okR_of h hi r).2.2.2 hK; omega
theorem stop_G {x : VV} {r rest : List UInt8} (h : x.good = true) (hi : x.inI) (e : rest = x.bytes ++ r) (hb : (firstV rest).1.good = false) : False := by
  subst e; rw [first_good h hi r] at hb; simp only at hb; rw [h] at hb; cases hb
theorem head_stop {whole : List UInt8} (hb : whole.length < 18446744073709551616) (h : (getN whole).2 = 0 ∨ whole.length < (getN whole).1) : loadV whole = none :=
  (load_none hb).2 fun ws h1 h2 h3 => by
    obtain ⟨a, b, c⟩ := key_n h2 h3
    rcases h with h | h
    · exact b h
    · have hl : ∀ l : List VV, l.length ≤ (flatV l).length := fun l => by
        induction l with
        | nil => simp
        | cons x r ih =>
          have := bytes_pos x.norm
          rw [flatV_cons, List.length_append, List.length_cons]; omega
      have := hl ws
      have hd := congrArg List.length c
      rw [List.length_drop] at hd
      omega
theorem rget_below {w : World} {v : Value} {l : List UInt8} (H : Holds w v (u8s l)) (hl : l.length ≤ 1099511627776) : ∀ w', Below w.heap.size w w' → Calls Tryz.prog 27 #[v] w' fun e w'' => e = .returned (.tuple #[.int .u64 ((getN l).1 : Int), .int .i64 ((getN l).2 : Int)]) ∧ w' = w'' :=
  fun _ hb => refGet_any (H.below hb) (by omega)
set_option maxHeartbeats 6400000 in
theorem refvload_any {w : World} {v : Value} {l : List UInt8} (H : Holds w v (u8s l)) (hl : l.length ≤ 1000000) : Calls Tryz.prog 8 #[v] w (LoadP w l) := by
  have hb64 : l.length < 18446744073709551616 := by omega
  have KG := refGet_any H (by omega)
  have hG := getN_bound l
  have hks := key_start l
  have HST := Lib.hid (head_stop hb64)
  have HS := Lib.hid (fun (w0 : World) (hb : Below w.heap.size w w0) => toStr (H.below hb))
  obtain ⟨a, c, rfl, hc⟩ := H.form
  have hne : (getN l).2 ≠ 0 → ∃ ad, a = some ad := fun h => by
    have : l ≠ [] := fun e => h (by rw [e]; rfl)
    exact H.ptr (by rw [u8s_len]; exact List.length_pos_iff.2 this)
  rw [u8s_len] at *
  have hwl : IntKind.u64.wrap (l.length : Int) = (l.length : Int) := by rw [IntKind.wrap_u64]; omega
  have HKN := Lib.hid (fun (rest : List UInt8) (acc : List VV) => @key_next l rest acc)
  have HKS := Lib.hid (fun (rest : List UInt8) (acc : List VV) => @key_stop l rest acc)
  have HKE := Lib.hid (fun (rest : List UInt8) (acc : List VV) => @key_end l rest acc)
  generalize (getN l).1 = N at *
  generalize (getN l).2 = P at *
  have p2 : (l.length : Int) ≤ (c : Int) := Int.ofNat_le.2 hc
  by_cases hP : P = 0
  · have t0 := beq_cast hP
    have hst := HST.out (.inl hP)
    clear HKN HKS HKE HST HS hks hne hP hG hb64 hl H hc
    generalize l.length = n at *
    go_enter Tryz.func8, Tryz.ntmps8
    go_wp2_with fail
    refine KG.mono ?_
    rintro e w1 ⟨rfl, rfl⟩
    go_wp2_with fail
    go_ret2
    exact ⟨⟨_, .inr ⟨hst, rfl, rfl⟩⟩, Below.refl _ _⟩
  by_cases hN : l.length < N
  · have t0 := bne_cast hP
    have t1 : decide (l.length < N) = true := decide_eq_true hN
    have hst := HST.out (.inr hN)
    clear HKN HKS HKE HST HS hks hne hP hG hb64 hl H hc hN
    generalize l.length = n at *
    go_enter Tryz.func8, Tryz.ntmps8
    go_wp2_with fail
    refine KG.mono ?_
    rintro e w1 ⟨rfl, rfl⟩
    go_wp2_with fail
    go_ret2
    exact ⟨⟨_, .inr ⟨hst, rfl, rfl⟩⟩, Below.refl _ _⟩
  have t0 := bne_cast hP
  have t1 : decide (l.length < N) = false := decide_eq_false hN
  obtain ⟨ad, rfl⟩ := hne hP
  obtain ⟨A0, if1, if1', hH0⟩ := cut_ahead H hG.1
  have p0 : (0 : Int) ≤ (P : Int) := Int.natCast_nonneg P
  have p1 : (P : Int) ≤ (l.length : Int) := Int.ofNat_le.2 hG.1
  have HH0 := Lib.hid hH0
  have HK0 := Lib.hid hks
  have HL := Lib.hid hl
  have HN := Lib.hid (Nat.le_of_not_lt hN)
  obtain ⟨n, hn⟩ : ∃ n, n = l.length := ⟨_, rfl⟩
  rw [← hn] at p1 p2 t1 hwl HH0 HL HN HS KG ⊢
  have HNL := Lib.hid hn
  clear HST hks hne hP hN hG hl H hc hH0 hn
  go_enter Tryz.func8, Tryz.ntmps8
  go_wp2_with fail
  refine KG.mono ?_
  rintro e w1 ⟨rfl, rfl⟩
  clear KG
  go_wp2_with fail
  go_loopw [0, 7, 8, 9, 10, 11, 12, 13] (fun s0 s7 s8 _ _ _ _ _ wr => ∃ (i : Nat) (v : Value) (acc : List VV) (rest : List UInt8) (m cA : Nat) (A : Addr), s8 = .int .u64 i ∧ v = s7 ∧ s0 = .slice (some A) m cA ∧ i ≤ N ∧ m ≤ cA ∧ m ≤ n ∧ acc.length = i ∧ rest.length = m ∧ Hid (OutV w wr v acc) ∧ Hid (KeyR l acc rest) ∧ Hid (∀ x ∈ acc, x.good = true ∧ x.inI) ∧ Hid (Holds w (.slice (some A) m cA) (u8s rest))) (fun _ _ k _ _ _ _ _ _ => N - (RowKit.intOf k).toNat)
  case atStart =>
    have h1 := HH0.out.len
    rw [u8s_len] at h1
    exact ⟨0, _, [], _, _, _, A0, rfl, rfl, rfl, Nat.zero_le _, h1.2, Nat.sub_le _ _, rfl, h1.1, Lib.hid (OutV.nil w), HK0, Lib.hid (fun x hx => absurd hx (by simp)), HH0⟩
  case round =>
    clear HK0 HH0 if1 if1' p0 p1 p2 t0 t1
    obtain ⟨i, v, acc, rest, m, cA, A, rfl, rfl, rfl, hiN, hmc, hmn, hal, hrl, HO, HK, HG, HH⟩ := hrel
    by_cases hlt : i < N
    · have b1 : (i : Int) < (N : Int) := Int.ofNat_lt.2 hlt
      have hw64 := u64_next hlt (Nat.lt_of_le_of_lt HN.out (le_u64 HL.out))
      have haN := len_lt hlt hal
      have hRB := getN_bound rest
      rw [hrl] at hRB
      have KG := rget_below HH.out (by rw [hrl]; exact le_five hmn HL.out) wr HO.out.2
      have HStop := Lib.hid (fun hno => HKS.out _ _ HK.out hb64 haN hno)
      have HNext := Lib.hid (HKN.out _ _ HK.out haN)
      have HAP := Lib.hid (fun w0 v0 (y : VV) (ho : OutV w w0 v0 acc) => ho.app y (le_acc hal hlt HN.out HL.out))
      obtain ⟨K, hK⟩ : ∃ K, (getN rest).1 = K := ⟨_, rfl⟩
      obtain ⟨P, hP⟩ : ∃ P, (getN rest).2 = P := ⟨_, rfl⟩
      rw [hK, hP] at KG hRB
      by_cases hP0 : P = 0
      · have t0 := beq_cast hP0
        have hst := HStop.out (fun x r h hi e => stop_P h hi e (hP.trans hP0))
        clear HStop HNext HAP HK HG HH hRB hP0 hK hP haN hal hrl hiN hmc hmn hlt
        go_wp2_with fail
        refine KG.mono ?_
        rintro e w1 ⟨rfl, rfl⟩
        go_wp2_with fail
        go_ret2
        exact ⟨⟨_, .inr ⟨hst, rfl, rfl⟩⟩, HO.out.2⟩
      have t0 := bne_cast hP0
      by_cases hK4 : 4 < K
      · have t1 : decide ((4 : Int) < (K : Int)) = true := decide_eq_true (Int.ofNat_lt.2 hK4)
        have hst := HStop.out (fun x r h hi e => stop_K h hi e (hK ▸ hK4))
        clear HStop HNext HAP HK HG HH hRB hP0 hK hP haN hal hrl hiN hmc hmn hlt hK4
        go_wp2_with fail
        refine KG.mono ?_
        rintro e w1 ⟨rfl, rfl⟩
        go_wp2_with fail
        go_ret2
        exact ⟨⟨_, .inr ⟨hst, rfl, rfl⟩⟩, HO.out.2⟩
      obtain ⟨A1, if1, if1', hH1⟩ := cut_ahead HH.out hRB.1
      have p0 : (0 : Int) ≤ (P : Int) := Int.natCast_nonneg P
      have p1 : (P : Int) ≤ (m : Int) := Int.ofNat_le.2 hRB.1
      have p2 : (m : Int) ≤ (cA : Int) := Int.ofNat_le.2 hmc
      rcases kind_cases (Nat.le_of_not_lt hK4) with rfl | rfl | rfl | rfl | rfl
      · have hf := first_null_eq hK
        rw [hP] at hf
        have KGd := refvgood_any 0 0 ⟨#[]⟩ (by decide) (by decide)
        have hin : VV.inI ⟨0, 0, ⟨#[]⟩⟩ := inI_none
        have HHn := Lib.hid hH1
        have hrl1 : (rest.drop P).length = m - P := by rw [List.length_drop, hrl]
        clear hH1 HH hP0 hRB hK4
        go_wp2_with fail
        refine KG.mono ?_
        rintro e w1 ⟨rfl, rfl⟩
        clear KG
        go_wp2_with fail
        refine (KGd _).mono ?_
        rintro e w3 ⟨rfl, hb3⟩
        have hbz : Below wr.heap.size wr w3 := ((Below.refl _ _).alloc (Nat.le_refl _) _).trans (hb3.mono (show wr.heap.size ≤ _ by simp))
        obtain ⟨k1, k2, k3⟩ := (C3.new wr (.int .i64 0) (.int .i64 0) (.string ⟨#[]⟩) 37).keep hb3 (by simp)
        have HO3 := Lib.hid (HO.out.next hbz)
        clear hb3 hbz KGd
        cases hgd : goodV 0 0 ⟨#[]⟩
        · have hst := HStop.out (fun x r h hi e => stop_G h hi e (by rw [hf]; exact hgd))
          go_wp2_with fail
          go_ret2
          exact ⟨⟨_, .inr ⟨hst, rfl, rfl⟩⟩, HO3.out.2⟩
        · obtain ⟨v', w', r, HO4⟩ := HAP.out _ _ ⟨0, 0, ⟨#[]⟩⟩ HO3.out
          have R1 := Lib.hid r
          have HO5 := Lib.hid HO4
          have HG2 : Hid (∀ x ∈ acc ++ [⟨0, 0, ⟨#[]⟩⟩], VV.good x = true ∧ VV.inI x) := Lib.hid (good_snoc HG.out hgd hin)
          have HK2 := HNext.out
          rw [hf] at HK2
          have HK3 := Lib.hid HK2
          clear HO3 r HO4 HAP HNext HStop HG HO HK2
          go_wp2_with (at_builtin; refine wpList_append_run rfl _ _ 22 rfl rfl rfl (R1.out _) ?_)
          go_roundw
          case rel => exact ⟨i + 1, _, _, _, _, _, A1, by go_num, rfl, rfl, hlt, Nat.sub_le_sub_right hmc P, Nat.le_trans (Nat.sub_le _ _) hmn, by rw [List.length_append, hal]; rfl, hrl1, HO5, HK3, HG2, HHn⟩
          case measure => simp [RowKit.intOf]; omega
      · have hf := first_num_eq (k := 1) hK (by omega)
        rw [hP] at hf
        have hl1 : (rest.drop P).length = m - P := by rw [List.length_drop, hrl]
        have hm1 : m - P ≤ n := Nat.le_trans (Nat.sub_le _ _) hmn
        have KG2 := rget_below hH1 (by rw [hl1]; exact le_five hm1 HL.out) _ (HO.out.2.alloc HO.out.2.size (.cells #[.int .i64 1, .int .i64 0, .string ⟨#[]⟩] 37))
        have hRB2 := getN_bound (rest.drop P)
        have hSM := fun x r (h : VV.good x = true) hi e => stop_M (x := x) (r := r) (rest := rest) h hi e (by rw [hK]; decide)
        rw [hP] at hSM
        obtain ⟨Q, hQ⟩ : ∃ Q, getN (rest.drop P) = Q := ⟨_, rfl⟩
        obtain ⟨U, M⟩ := Q
        rw [hQ] at hf KG2 hRB2 hSM
        rw [hl1] at hRB2
        simp only at hf KG2 hRB2 hSM
        clear hP0 hRB hK4 hK hP HH
        go_wp2_with fail
        refine KG.mono ?_
        rintro e w1 ⟨rfl, rfl⟩
        clear KG
        go_wp2_with fail
        refine KG2.mono ?_
        rintro e w1 ⟨rfl, rfl⟩
        clear KG2
        by_cases hM : M = 0
        · have t2 := beq_cast hM
          have hst := HStop.out (fun x r h hi e => hSM x r h hi e hM)
          have HBA := Lib.hid (HO.out.2.alloc HO.out.2.size (.cells #[.int .i64 1, .int .i64 0, .string ⟨#[]⟩] 37))
          go_wp2_with fail
          go_ret2
          exact ⟨⟨_, .inr ⟨hst, rfl, rfl⟩⟩, HBA.out⟩
        have t2 := bne_cast hM
        obtain ⟨A2, if2, if2', hH2⟩ := cut_ahead hH1 hRB2.1
        rw [List.drop_drop] at hH2
        have hl2 : (rest.drop (P + M)).length = m - P - M := by rw [List.length_drop, hrl]; exact Nat.sub_add_eq _ _ _
        have q0 : (0 : Int) ≤ (M : Int) := Int.natCast_nonneg M
        have q1 := hRB2.1
        have q2 : m - P ≤ cA - P := Nat.sub_le_sub_right hmc P
        have KZ := fun w => refZag_any U w hRB2.2
        have hzi := zag_inI U hRB2.2
        generalize zagN U = Z at *
        clear hM hRB2 hH1 hl1 if1 if1' hSM
        have hin : VV.inI ⟨1, Z, ⟨#[]⟩⟩ := hzi
        have KGd := refvgood_any 1 Z ⟨#[]⟩ hzi.1 hzi.2
        have HHn := Lib.hid hH2
        clear hH2 hzi
        go_wp2_with fail
        refine (KZ _).mono ?_
        rintro e w1 ⟨rfl, rfl⟩
        clear KZ
        go_wp2_with fail
        refine (KGd _).mono ?_
        rintro e w3 ⟨rfl, hb3⟩
        have hbz : Below wr.heap.size wr w3 := ((Below.refl _ _).alloc (Nat.le_refl _) _).trans (hb3.mono (show wr.heap.size ≤ _ by simp))
        obtain ⟨k1, k2, k3⟩ := (C3.new wr (.int .i64 1) (.int .i64 Z) (.string ⟨#[]⟩) 37).keep hb3 (by simp)
        have HO3 := Lib.hid (HO.out.next hbz)
        clear hb3 hbz KGd
        cases hgd : goodV 1 Z ⟨#[]⟩
        · have hst := HStop.out (fun x r h hi e => stop_G h hi e (by rw [hf]; exact hgd))
          go_wp2_with fail
          go_ret2
          exact ⟨⟨_, .inr ⟨hst, rfl, rfl⟩⟩, HO3.out.2⟩
        · obtain ⟨v', w', r, HO4⟩ := HAP.out _ _ ⟨1, Z, ⟨#[]⟩⟩ HO3.out
          have R1 := Lib.hid r
          have HO5 := Lib.hid HO4
          have HG2 : Hid (∀ x ∈ acc ++ [⟨1, Z, ⟨#[]⟩⟩], VV.good x = true ∧ VV.inI x) := Lib.hid (good_snoc HG.out hgd hin)
          have HK2 := HNext.out
          rw [hf] at HK2
          have HK3 := Lib.hid HK2
          clear HO3 r HO4 HAP HNext HStop HG HO HK2
          go_wp2_with (at_builtin; refine wpList_append_run rfl _ _ 22 rfl rfl rfl (R1.out _) ?_)
          go_roundw
          case rel => exact ⟨i + 1, _, _, _, _, _, A2, by go_num, rfl, rfl, hlt, Nat.sub_le_sub_right q2 M, Nat.le_trans (Nat.sub_le _ _) hm1, by rw [List.length_append, hal]; rfl, hl2, HO5, HK3, HG2, HHn⟩
          case measure => simp [RowKit.intOf]; omega
      · have hf := first_num_eq (k := 2) hK (by omega)
        rw [hP] at hf
        have hl1 : (rest.drop P).length = m - P := by rw [List.length_drop, hrl]
        have hm1 : m - P ≤ n := Nat.le_trans (Nat.sub_le _ _) hmn
        have KG2 := rget_below hH1 (by rw [hl1]; exact le_five hm1 HL.out) _ (HO.out.2.alloc HO.out.2.size (.cells #[.int .i64 2, .int .i64 0, .string ⟨#[]⟩] 37))
        have hRB2 := getN_bound (rest.drop P)
        have hSM := fun x r (h : VV.good x = true) hi e => stop_M (x := x) (r := r) (rest := rest) h hi e (by rw [hK]; decide)
        rw [hP] at hSM
        obtain ⟨Q, hQ⟩ : ∃ Q, getN (rest.drop P) = Q := ⟨_, rfl⟩
        obtain ⟨U, M⟩ := Q
        rw [hQ] at hf KG2 hRB2 hSM
        rw [hl1] at hRB2
        simp only at hf KG2 hRB2 hSM
        clear hP0 hRB hK4 hK hP HH
        go_wp2_with fail
        refine KG.mono ?_
        rintro e w1 ⟨rfl, rfl⟩
        clear KG
        go_wp2_with fail
        refine KG2.mono ?_
        rintro e w1 ⟨rfl, rfl⟩
        clear KG2
        by_cases hM : M = 0
        · have t2 := beq_cast hM
          have hst := HStop.out (fun x r h hi e => hSM x r h hi e hM)
          have HBA := Lib.hid (HO.out.2.alloc HO.out.2.size (.cells #[.int .i64 2, .int .i64 0, .string ⟨#[]⟩] 37))
          go_wp2_with fail
          go_ret2
          exact ⟨⟨_, .inr ⟨hst, rfl, rfl⟩⟩, HBA.out⟩
        have t2 := bne_cast hM
        obtain ⟨A2, if2, if2', hH2⟩ := cut_ahead hH1 hRB2.1
        rw [List.drop_drop] at hH2
        have hl2 : (rest.drop (P + M)).length = m - P - M := by rw [List.length_drop, hrl]; exact Nat.sub_add_eq _ _ _
        have q0 : (0 : Int) ≤ (M : Int) := Int.natCast_nonneg M
        have q1 := hRB2.1
        have q2 : m - P ≤ cA - P := Nat.sub_le_sub_right hmc P
        have KZ := fun w => refZag_any U w hRB2.2
        have hzi := zag_inI U hRB2.2
        generalize zagN U = Z at *
        clear hM hRB2 hH1 hl1 if1 if1' hSM
        have hin : VV.inI ⟨2, Z, ⟨#[]⟩⟩ := hzi
        have KGd := refvgood_any 2 Z ⟨#[]⟩ hzi.1 hzi.2
        have HHn := Lib.hid hH2
        clear hH2 hzi
        go_wp2_with fail
        refine (KZ _).mono ?_
        rintro e w1 ⟨rfl, rfl⟩
        clear KZ
        go_wp2_with fail
        refine (KGd _).mono ?_
        rintro e w3 ⟨rfl, hb3⟩
        have hbz : Below wr.heap.size wr w3 := ((Below.refl _ _).alloc (Nat.le_refl _) _).trans (hb3.mono (show wr.heap.size ≤ _ by simp))
        obtain ⟨k1, k2, k3⟩ := (C3.new wr (.int .i64 2) (.int .i64 Z) (.string ⟨#[]⟩) 37).keep hb3 (by simp)
        have HO3 := Lib.hid (HO.out.next hbz)
        clear hb3 hbz KGd
        cases hgd : goodV 2 Z ⟨#[]⟩
        · have hst := HStop.out (fun x r h hi e => stop_G h hi e (by rw [hf]; exact hgd))
          go_wp2_with fail
          go_ret2
          exact ⟨⟨_, .inr ⟨hst, rfl, rfl⟩⟩, HO3.out.2⟩
        · obtain ⟨v', w', r, HO4⟩ := HAP.out _ _ ⟨2, Z, ⟨#[]⟩⟩ HO3.out
          have R1 := Lib.hid r
          have HO5 := Lib.hid HO4
          have HG2 : Hid (∀ x ∈ acc ++ [⟨2, Z, ⟨#[]⟩⟩], VV.good x = true ∧ VV.inI x) := Lib.hid (good_snoc HG.out hgd hin)
          have HK2 := HNext.out
          rw [hf] at HK2
          have HK3 := Lib.hid HK2
          clear HO3 r HO4 HAP HNext HStop HG HO HK2
          go_wp2_with (at_builtin; refine wpList_append_run rfl _ _ 22 rfl rfl rfl (R1.out _) ?_)
          go_roundw
          case rel => exact ⟨i + 1, _, _, _, _, _, A2, by go_num, rfl, rfl, hlt, Nat.sub_le_sub_right q2 M, Nat.le_trans (Nat.sub_le _ _) hm1, by rw [List.length_append, hal]; rfl, hl2, HO5, HK3, HG2, HHn⟩
          case measure => simp [RowKit.intOf]; omega
      · have hf := first_str_eq hK
        rw [hP] at hf
        have hl1 : (rest.drop P).length = m - P := by rw [List.length_drop, hrl]
        have hm1 : m - P ≤ n := Nat.le_trans (Nat.sub_le _ _) hmn
        have KG2 := rget_below hH1 (by rw [hl1]; exact le_five hm1 HL.out) _ (HO.out.2.alloc HO.out.2.size (.cells #[.int .i64 3, .int .i64 0, .string ⟨#[]⟩] 37))
        have hRB2 := getN_bound (rest.drop P)
        have hSM := fun x r (h : VV.good x = true) hi e => stop_M (x := x) (r := r) (rest := rest) h hi e (by rw [hK]; decide)
        rw [hP] at hSM
        have hSU := fun x r (h : VV.good x = true) hi e => stop_U (x := x) (r := r) (rest := rest) h hi e hK
        rw [hP] at hSU
        obtain ⟨Q, hQ⟩ : ∃ Q, getN (rest.drop P) = Q := ⟨_, rfl⟩
        obtain ⟨U, M⟩ := Q
        rw [hQ] at hf KG2 hRB2 hSM hSU
        rw [hl1] at hRB2
        simp only at hf KG2 hRB2 hSM hSU
        clear hP0 hRB hK4 hK hP HH
        go_wp2_with fail
        refine KG.mono ?_
        rintro e w1 ⟨rfl, rfl⟩
        clear KG
        go_wp2_with fail
        refine KG2.mono ?_
        rintro e w1 ⟨rfl, rfl⟩
        clear KG2
        by_cases hM : M = 0
        · have t2 := beq_cast hM
          have hst := HStop.out (fun x r h hi e => hSM x r h hi e hM)
          have HBA := Lib.hid (HO.out.2.alloc HO.out.2.size (.cells #[.int .i64 3, .int .i64 0, .string ⟨#[]⟩] 37))
          go_wp2_with fail
          go_ret2
          exact ⟨⟨_, .inr ⟨hst, rfl, rfl⟩⟩, HBA.out⟩
        have t2 := bne_cast hM
        obtain ⟨A2, if2, if2', hH2⟩ := cut_ahead hH1 hRB2.1
        rw [List.drop_drop] at hH2
        have hl2 : (rest.drop (P + M)).length = m - P - M := by rw [List.length_drop, hrl]; exact Nat.sub_add_eq _ _ _
        have q0 : (0 : Int) ≤ (M : Int) := Int.natCast_nonneg M
        have q1 := hRB2.1
        have q2 : m - P ≤ cA - P := Nat.sub_le_sub_right hmc P
        have KZ := fun w => refZag_any U w hRB2.2
        have hzi := zag_inI U hRB2.2
        generalize zagN U = Z at *
        clear hM hRB2 hH1 hl1 if1 if1' hSM
        rw [hrl] at hSU hf
        have hw3 : IntKind.u64.wrap (((m - P - M : Nat) : Int)) = ((m - P - M : Nat) : Int) := wrap_m (Nat.le_trans (Nat.sub_le _ _) hm1) HL.out
        have e3 : m - (P + M) = m - P - M := Nat.sub_add_eq _ _ _
        rw [e3] at hSU hf
        by_cases hU : m - P - M < U
        · have t3 : decide (m - P - M < U) = true := decide_eq_true hU
          have hst := HStop.out (fun x r h hi e => hSU x r h hi e hU)
          have HBA := Lib.hid (HO.out.2.alloc HO.out.2.size (.cells #[.int .i64 3, .int .i64 Z, .string ⟨#[]⟩] 37))
          clear hU hSU hf hH2 hzi HStop HNext HAP
          go_wp2_with fail
          refine (KZ _).mono ?_
          rintro e w1 ⟨rfl, rfl⟩
          clear KZ
          go_wp2_with fail
          go_ret2
          exact ⟨⟨_, .inr ⟨hst, rfl, rfl⟩⟩, HBA.out⟩
        have t3 : decide (m - P - M < U) = false := decide_eq_false hU
        rw [if_neg hU, List.drop_drop] at hf
        obtain ⟨A3, if3, if3', hH3⟩ := cut_ahead hH2 (Nat.le_of_not_lt hU)
        rw [List.drop_drop] at hH3
        have hl3 : (rest.drop (P + M + U)).length = m - P - M - U := by rw [List.length_drop, hrl, ← e3]; exact Nat.sub_add_eq _ _ _
        have hT := hH2.take U (Nat.le_of_not_lt hU)
        rw [u8s_take'] at hT
        generalize (rest.drop (P + M)).take U = X at *
        have KS := toStr (hT.below (w' := wr.alloc (.cells #[.int .i64 3, .int .i64 0, .string ⟨#[]⟩] 37)) (HO.out.2.alloc HO.out.2.size _))
        have r0 : (0 : Int) ≤ (U : Int) := Int.natCast_nonneg U
        have r1 := Nat.le_of_not_lt hU
        have r2 : m - P - M ≤ cA - P - M := Nat.sub_le_sub_right q2 M
        have r3 : U ≤ cA - P - M := Nat.le_trans r1 r2
        have hin : VV.inI ⟨3, 0, ⟨X.toArray⟩⟩ := ⟨by show (-9223372036854775808 : Int) ≤ 0; decide, by show (0 : Int) < 9223372036854775808; decide⟩
        have KGd := refvgood_any 3 0 ⟨X.toArray⟩ (by decide) (by decide)
        have HHn := Lib.hid hH3
        clear hH2 hzi hU hSU hT hH3 e3
        go_wp2_with fail
        refine (KZ _).mono ?_
        rintro e w1 ⟨rfl, rfl⟩
        clear KZ
        go_wp2_with fail
        refine (KGd _).mono ?_
        rintro e w3 ⟨rfl, hb3⟩
        have hbz : Below wr.heap.size wr w3 := ((Below.refl _ _).alloc (Nat.le_refl _) _).trans (hb3.mono (show wr.heap.size ≤ _ by simp))
        obtain ⟨k1, k2, k3⟩ := (C3.new wr (.int .i64 3) (.int .i64 0) (.string ⟨X.toArray⟩) 37).keep hb3 (by simp)
        have HO3 := Lib.hid (HO.out.next hbz)
        clear hb3 hbz KGd
        cases hgd : goodV 3 0 ⟨X.toArray⟩
        · have hst := HStop.out (fun x r h hi e => stop_G h hi e (by rw [hf]; exact hgd))
          go_wp2_with fail
          go_ret2
          exact ⟨⟨_, .inr ⟨hst, rfl, rfl⟩⟩, HO3.out.2⟩
        · obtain ⟨v', w', r, HO4⟩ := HAP.out _ _ ⟨3, 0, ⟨X.toArray⟩⟩ HO3.out
          have R1 := Lib.hid r
          have HO5 := Lib.hid HO4
          have HG2 : Hid (∀ x ∈ acc ++ [⟨3, 0, ⟨X.toArray⟩⟩], VV.good x = true ∧ VV.inI x) := Lib.hid (good_snoc HG.out hgd hin)
          have HK2 := HNext.out
          rw [hf] at HK2
          have HK3 := Lib.hid HK2
          clear HO3 r HO4 HAP HNext HStop HG HO HK2
          go_wp2_with (at_builtin; refine wpList_append_run rfl _ _ 22 rfl rfl rfl (R1.out _) ?_)
          go_roundw
          case rel => exact ⟨i + 1, _, _, _, _, _, A3, by go_num, rfl, rfl, hlt, Nat.sub_le_sub_right r2 U, Nat.le_trans (Nat.sub_le _ _) (Nat.le_trans (Nat.sub_le _ _) hm1), by rw [List.length_append, hal]; rfl, hl3, HO5, HK3, HG2, HHn⟩
          case measure => simp [RowKit.intOf]; omega
      · have hf := first_num_eq (k := 4) hK (by omega)
        rw [hP] at hf
        have hl1 : (rest.drop P).length = m - P := by rw [List.length_drop, hrl]
        have hm1 : m - P ≤ n := Nat.le_trans (Nat.sub_le _ _) hmn
        have KG2 := rget_below hH1 (by rw [hl1]; exact le_five hm1 HL.out) _ (HO.out.2.alloc HO.out.2.size (.cells #[.int .i64 4, .int .i64 0, .string ⟨#[]⟩] 37))
        have hRB2 := getN_bound (rest.drop P)
        have hSM := fun x r (h : VV.good x = true) hi e => stop_M (x := x) (r := r) (rest := rest) h hi e (by rw [hK]; decide)
        rw [hP] at hSM
        obtain ⟨Q, hQ⟩ : ∃ Q, getN (rest.drop P) = Q := ⟨_, rfl⟩
        obtain ⟨U, M⟩ := Q
        rw [hQ] at hf KG2 hRB2 hSM
        rw [hl1] at hRB2
        simp only at hf KG2 hRB2 hSM
        clear hP0 hRB hK4 hK hP HH
        go_wp2_with fail
        refine KG.mono ?_
        rintro e w1 ⟨rfl, rfl⟩
        clear KG
        go_wp2_with fail
        refine KG2.mono ?_
        rintro e w1 ⟨rfl, rfl⟩
        clear KG2
        by_cases hM : M = 0
        · have t2 := beq_cast hM
          have hst := HStop.out (fun x r h hi e => hSM x r h hi e hM)
          have HBA := Lib.hid (HO.out.2.alloc HO.out.2.size (.cells #[.int .i64 4, .int .i64 0, .string ⟨#[]⟩] 37))
          go_wp2_with fail
          go_ret2
          exact ⟨⟨_, .inr ⟨hst, rfl, rfl⟩⟩, HBA.out⟩
        have t2 := bne_cast hM
        obtain ⟨A2, if2, if2', hH2⟩ := cut_ahead hH1 hRB2.1
        rw [List.drop_drop] at hH2
        have hl2 : (rest.drop (P + M)).length = m - P - M := by rw [List.length_drop, hrl]; exact Nat.sub_add_eq _ _ _
        have q0 : (0 : Int) ≤ (M : Int) := Int.natCast_nonneg M
        have q1 := hRB2.1
        have q2 : m - P ≤ cA - P := Nat.sub_le_sub_right hmc P
        have KZ := fun w => refZag_any U w hRB2.2
        have hzi := zag_inI U hRB2.2
        generalize zagN U = Z at *
        clear hM hRB2 hH1 hl1 if1 if1' hSM
        have hin : VV.inI ⟨4, Z, ⟨#[]⟩⟩ := hzi
        have KGd := refvgood_any 4 Z ⟨#[]⟩ hzi.1 hzi.2
        have HHn := Lib.hid hH2
        clear hH2 hzi
        go_wp2_with fail
        refine (KZ _).mono ?_
        rintro e w1 ⟨rfl, rfl⟩
        clear KZ
        go_wp2_with fail
        refine (KGd _).mono ?_
        rintro e w3 ⟨rfl, hb3⟩
        have hbz : Below wr.heap.size wr w3 := ((Below.refl _ _).alloc (Nat.le_refl _) _).trans (hb3.mono (show wr.heap.size ≤ _ by simp))
        obtain ⟨k1, k2, k3⟩ := (C3.new wr (.int .i64 4) (.int .i64 Z) (.string ⟨#[]⟩) 37).keep hb3 (by simp)
        have HO3 := Lib.hid (HO.out.next hbz)
        clear hb3 hbz KGd
        cases hgd : goodV 4 Z ⟨#[]⟩
        · have hst := HStop.out (fun x r h hi e => stop_G h hi e (by rw [hf]; exact hgd))
          go_wp2_with fail
          go_ret2
          exact ⟨⟨_, .inr ⟨hst, rfl, rfl⟩⟩, HO3.out.2⟩
        · obtain ⟨v', w', r, HO4⟩ := HAP.out _ _ ⟨4, Z, ⟨#[]⟩⟩ HO3.out
          have R1 := Lib.hid r
          have HO5 := Lib.hid HO4
          have HG2 : Hid (∀ x ∈ acc ++ [⟨4, Z, ⟨#[]⟩⟩], VV.good x = true ∧ VV.inI x) := Lib.hid (good_snoc HG.out hgd hin)
          have HK2 := HNext.out
          rw [hf] at HK2
          have HK3 := Lib.hid HK2
          clear HO3 r HO4 HAP HNext HStop HG HO HK2
          go_wp2_with (at_builtin; refine wpList_append_run rfl _ _ 22 rfl rfl rfl (R1.out _) ?_)
          go_roundw
          case rel => exact ⟨i + 1, _, _, _, _, _, A2, by go_num, rfl, rfl, hlt, Nat.sub_le_sub_right q2 M, Nat.le_trans (Nat.sub_le _ _) hm1, by rw [List.length_append, hal]; rfl, hl2, HO5, HK3, HG2, HHn⟩
          case measure => simp [RowKit.intOf]; omega
    · have hei : i = N := end_eq hiN hlt
      have hlo := HKE.out _ _ HK.out hb64 (hal.trans hei) HG.out
      have HBy := Lib.hid (fun (w0 : World) (h0 : OutV w w0 v acc) => refvbytes_any (holdsV_of_owns h0.1) (by rw [hal, hei]; exact Nat.le_trans HN.out (Nat.le_trans HL.out (by decide))) (fun x hx => (HG.out x hx).2))
      obtain ⟨SL, hSL⟩ : ∃ SL, (⟨l.toArray⟩ : ByteArray) = SL := ⟨_, rfl⟩
      obtain ⟨SA, hSA⟩ : ∃ SA, (⟨(bytesV acc).toArray⟩ : ByteArray) = SA := ⟨_, rfl⟩
      have hse := str_eq (bytesV acc) l
      rw [hSL] at HS
      rw [hSL, hSA] at hse
      obtain ⟨bq, hbq⟩ : ∃ bq, decide (bytesV acc = l) = bq := ⟨_, rfl⟩
      rw [hbq] at hse
      have HBQ := Lib.hid hbq
      have HLO := Lib.hid hlo
      clear hbq hlo
      clear hei HK HG HKN HKS HKE hal hrl hmn hmc hiN HH
      go_wp2_with fail
      have HOd := Lib.hid (HO.out.next (below_drew_v wr))
      have KB := HBy.out wr.drew HOd.out
      refine wp_region_mix (fun W => (convert 23 9 (.slice (some ad) n c)).run Tryz.prog W = .ok (.string SL) W) 6 [(true, 0), (true, 3), (true, 4), (false, 1), (false, 2), (true, 5)] (by kernel_rfl) (by decide +kernel) rfl (by decide +kernel) (HS.out _ HOd.out.2) ?_
      iterate 3
        refine wpMix_take (v := ?_) rfl rfl ?_ ?_
        rotate_left
        · (intro W hW; (try dsimp only at hW); go_simp) <;> with_reducible rfl
        simp only [Act.put, List.setIfInBounds_toArray, List.set_cons_zero, List.set_cons_succ]
      refine wpMix_run rfl ?_
      intro K hK
      go_wp2_with fail
      refine KB.mono ?_
      rintro e w2 ⟨v2, rfl, ho, hb2⟩
      have HO2 := HOd.out.next hb2
      have hO : Holds w2 v2 (u8s (bytesV acc)) := Holds.of_row (by rw [u8s_len]; exact ho)
      have KS2 := toStr hO
      rw [hSA] at KS2
      have S2 := HS.out w2 HO2.2
      have H2 := Lib.hid HO2
      clear KB HBy ho hb2 HO2 hO HS HOd HO
      go_wp2_with fail
      refine hK.out _ _ (fun _ => S2) ?_
      clear hK K
      refine wpMix_run rfl ?_
      intro K hK
      go_wp2_with fail
      refine hK.out _ _ (fun _ => S2) ?_
      clear hK K
      iterate 1
        refine wpMix_take (v := ?_) rfl rfl ?_ ?_
        rotate_left
        · (intro W hW; (try dsimp only at hW); go_simp) <;> with_reducible rfl
        simp only [Act.put, List.setIfInBounds_toArray, List.set_cons_zero, List.set_cons_succ]
      refine wpMix_nil ?_
      have HOV := Lib.hid (holdsV_of_owns H2.out.1)
      cases bq
      · have he : ¬ bytesV acc = l := of_decide_eq_false HBQ.out
        have hlo := HLO.out
        rw [if_neg he] at hlo
        clear he hse
        go_wp2_with fail
        go_ret2
        exact ⟨⟨_, .inr ⟨hlo, rfl, rfl⟩⟩, H2.out.2⟩
      · have he : bytesV acc = l := of_decide_eq_true HBQ.out
        have hlo := HLO.out
        rw [if_pos he] at hlo
        clear he hse
        go_wp2_with fail
        go_ret2
        exact ⟨⟨_, .inl ⟨acc, hlo, HOV.out, rfl⟩⟩, H2.out.2⟩
end Go.Proofs.YtfmhdnefcapjgaaGreat
