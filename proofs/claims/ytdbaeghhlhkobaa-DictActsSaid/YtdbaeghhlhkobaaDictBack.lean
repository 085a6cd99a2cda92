/- The walk of DictBack; values that came in. Conditions: none. -/
import Derived.Test.YtdbaeghhlhkobaaDictSide
import Derived.Lib.SmallJoins
set_option maxRecDepth 100000
namespace Go.Proofs.Ytdbaeghhlhkobaa
open Go.RowKit Go.Maps Go.Sort Go.Lib Go.ChangeShapes Go.WideShapes Go.ChangeAt Go.Deep Go.Joins

theorem mem0 {α : Type _} {a : α} {l : List α} : a ∈ a :: l := List.mem_cons_self ..
theorem mem1 {α : Type _} {a b : α} {l : List α} : b ∈ a :: b :: l := List.mem_cons_of_mem _ mem0
theorem mem2 {α : Type _} {a b c : α} {l : List α} : c ∈ a :: b :: c :: l := List.mem_cons_of_mem _ mem1
theorem mem3 {α : Type _} {a b c d : α} {l : List α} : d ∈ a :: b :: c :: d :: l := List.mem_cons_of_mem _ mem2
/-- a slice of values that came in -/
theorem vals_ty {H : Type} {enc : TypeId × Value → H} {w : World} {v : Value} {d : DataW H} {p : List MemPlace} {r : Reach} {b0 : Nat} (hv : Value.okWide Try.prog w r b0 22 v)
    (h : DataW.Trod enc Try.prog w 0 (fun _ => true) true 22 v d p) : ∃ a n c, v = .slice a n c ∧ ∃ vs : List VV, vs.length = n ∧ HoldsV w (.slice a n c) vs ∧ TyAll vs ∧ n ≤ maxLen := by
  obtain ⟨a, n, c, rfl⟩ := okWide_slice Try.underlying22 hv
  obtain ⟨fuel, hf⟩ := h
  refine ⟨a, n, c, rfl, ?_⟩
  rcases open_structs (Try.underlying22) (Try.underlying29) (by kernel_rfl) (by kernel_rfl) hf with hcs | ⟨a', len, cap, hcs, hlc, hmx, hi⟩
  · simp [Value.cells] at hcs
    obtain ⟨rfl, rfl, rfl⟩ := hcs
    exact ⟨[], rfl, holdsV_nil w, fun x hx => absurd hx (by simp), Nat.zero_le _⟩
  · simp [Value.cells] at hcs
    obtain ⟨rfl, rfl, rfl⟩ := hcs
    have key : ∀ i, ∃ x : VV, i < n → (w.cell? (a'.add (i * 3)) = some (.int .i64 x.k) ∧ w.cell? ⟨(a'.add (i * 3)).block, (a'.add (i * 3)).off + 1, none⟩ = some (.int .i64 x.n) ∧ w.cell? ⟨(a'.add (i * 3)).block, (a'.add (i * 3)).off + 2, none⟩ = some (.string x.s)) ∧ x.ty := fun i => by
      by_cases hil : i < n
      · obtain ⟨n', hf'⟩ := hi i hil
        obtain ⟨v0, y0, c0, t0⟩ := hf' 0 _ rfl
        obtain ⟨v1, y1, c1, t1⟩ := hf' 1 _ rfl
        obtain ⟨v2, y2, c2, t2⟩ := hf' 2 _ rfl
        obtain ⟨b0, e0, _, z0⟩ := DataW.trod_int Try.underlying3 t0
        obtain ⟨b1, e1, _, z1⟩ := DataW.trod_int Try.underlying3 t1
        obtain ⟨b2, e2, _, z2⟩ := DataW.trod_string Try.underlying9 t2
        simp only [List.cons.injEq, and_true] at e0 e1 e2
        subst e0 e1 e2
        have x0 := bounds_of_i64 z0
        have x1 := bounds_of_i64 z1
        refine ⟨⟨b0, b1, b2⟩, fun _ => ⟨⟨c0, ?_, ?_⟩, ⟨⟨by show _ ≤ b0; omega, by show b0 < _; omega⟩, ⟨by show _ ≤ b1; omega, by show b1 < _; omega⟩, z2⟩⟩⟩
        · rw [← add_offn a' (i * 3) 1 (by decide)]; exact c1
        · rw [← add_offn a' (i * 3) 2 (by decide)]; exact c2
      · exact ⟨VV.none_, fun h => absurd h hil⟩
    obtain ⟨f, hf'⟩ := Classical.skolem.1 key
    refine ⟨(List.range n).map f, by simp, ⟨some a', c, by simp, by simpa using hlc, .inr ⟨a', rfl, fun i x hx => ?_⟩⟩, fun x hx => ?_, Nat.le_trans hlc hmx⟩
    · rw [List.getElem?_map] at hx
      obtain ⟨j, hj, rfl⟩ := Option.map_eq_some_iff.1 hx
      obtain ⟨hlt, e⟩ := List.getElem?_eq_some_iff.1 hj
      simp at hlt e
      subst e
      exact (hf' i hlt).1
    · obtain ⟨i, hir, rfl⟩ := List.mem_map.1 hx
      exact (hf' i (List.mem_range.1 hir)).2
theorem neq_val (w : World) (k n : Int) (s : ByteArray) : (binOp .neq 29 (vv k n s) (vv k n s)).run Try.prog w = .ok (.bool false) w := by
  have h := eql_val w k n s k n s
  have e : sameV k n s k n s = true := by simp [sameV]
  rw [e, run_eql_struct] at h
  rw [run_neq_struct]
  generalize (Op.equalIn 10000 29 (vv k n s) (vv k n s)).run Try.prog w = r at *
  cases r with
  | ok b w' => simp [Result.andThen] at h ⊢; exact h
  | halt x w' => simp [Result.andThen] at h
/-- what follows where Add took a value -/
theorem added {K : Int} {L : List VV} {x : VV} (h : addE K L x = 0) : atV (addL K L x) (addI K L x : Nat) = some x ∧ posV (addL K L x) x = some (addI K L x) ∧ addI K L x ≤ L.length ∧ (addL K L x).length ≤ L.length + 1 ∧ (addI K L x = L.length → (addL K L x).length = L.length + 1) := by
  have at_ : ∀ (M : List VV) (i : Nat), M[i]? = some x → atV M (i : Int) = some x := fun M i hi => by
    unfold atV
    rw [if_pos (by omega)]
    exact hi
  unfold addE at h
  unfold addI addL
  cases ok : okV K x
  · rw [ok] at h; simp at h
  · rw [ok] at h
    cases hp : posV L x with
    | some i =>
      have hi := pos_at hp
      have hlt := pos_lt hp
      simp only [Option.isSome_some, if_true, Option.getD_some, Bool.not_true, Bool.and_false, Bool.false_and, Bool.false_eq_true, if_false]
      exact ⟨at_ _ _ hi, hp, by omega, by omega, by omega⟩
    | none =>
      rw [hp] at h
      simp only [Option.isSome_none, if_true, Bool.false_eq_true, if_false] at h
      have hl : ¬ 512 ≤ L.length := fun g => by rw [if_pos g] at h; simp at h
      simp only [Option.isSome_none, if_true, Option.getD_none, Bool.not_false, Bool.true_and, if_neg hl]
      rw [decide_eq_true (by omega)]
      simp only [if_true]
      refine ⟨at_ _ _ (by simp), ?_, by omega, by simp, by simp⟩
      rw [pos_snoc, hp, is_self]; rfl
def boxV (x : VV) : Obj := .cells #[.int .i64 x.k, .int .i64 x.n, .string x.s] 29
set_option maxHeartbeats 3200000 in
theorem back_walk {w : World} (K : Int) {v : Value} {xs : List VV} (hv : HoldsV w v xs) (hx : TyAll xs) :
    Calls Try.prog 5 #[.int .i64 K, v] w fun e w' => e = .returned (.bool true) ∧ Below w.heap.size w w' := by
  have KL := lives_any
  obtain ⟨a, c, rfl, hc⟩ := hv.form
  by_cases hK : K < 1 ∨ 4 < K
  · have KN := dnew_no hK
    generalize xs.length = N at *
    clear hv hx hK hc
    go_enter Try.func5, Try.ntmps5
    go_wp2_with fail
    refine (KN _).mono ?_
    rintro e w' ⟨rfl, rfl⟩
    go_wp2_with fail
    refine (KL _).mono ?_
    rintro e w' ⟨rfl, hb⟩
    go_wp2_with fail
    go_ret
    exact ⟨rfl, hb⟩
  have KN := side_dnew (Side.nil w) 1 (K := K) (by omega) (by omega)
  by_cases hl : 600 < xs.length
  · have t0 : decide ((600 : Int) < (xs.length : Int)) = true := decide_eq_true (by omega)
    generalize xs.length = N at *
    clear hv hx hK hc hl
    go_enter Try.func5, Try.ntmps5
    go_wp2_with fail
    refine KN.mono ?_
    rintro e w1 ⟨q, rfl, h1⟩
    clear KN
    go_wp2_with fail
    refine (KL _).mono ?_
    rintro e w' ⟨rfl, hb⟩
    have FB := Lib.hid (h1.out.base.trans (hb.mono h1.out.base.size))
    clear h1 hb
    go_wp2_with fail
    go_ret
    exact ⟨rfl, FB.out⟩
  have t0 : decide ((600 : Int) < (xs.length : Int)) = false := decide_eq_false (by omega)
  obtain ⟨N, hN⟩ : ∃ N, xs.length = N := ⟨_, rfl⟩
  have HV := Lib.hid hv
  have HX := Lib.hid hx
  rw [hN] at t0 hl HV ⊢
  have HL := Lib.hid hl
  have HN := Lib.hid hN
  clear hv hx hK hc hl hN
  go_enter Try.func5, Try.ntmps5
  go_wp2_with fail
  refine KN.mono ?_
  rintro e w1 ⟨q, rfl, h1⟩
  clear KN
  go_wp2_with fail
  go_loopw [27] (fun s wr => ∃ m : Nat, s = .int .i64 m ∧ m ≤ N ∧ Hid (∃ L, Side w [(1, Dt q K L)] wr)) (fun s _ => N - (RowKit.intOf s).toNat)
  case atStart => exact ⟨0, rfl, Nat.zero_le _, [], h1.out⟩
  case round =>
    obtain ⟨m, rfl, hm, HS⟩ := hrel
    by_cases hlt : m < N
    · obtain ⟨x, hx⟩ : ∃ x, xs[m]? = some x := ⟨xs[m]'(HN.out ▸ hlt), List.getElem?_eq_getElem _⟩
      obtain ⟨L, hM⟩ := HS.out
      have HT := Lib.hid (HX.out x (List.mem_of_getElem? hx))
      obtain ⟨ad, rfl, d0, d1, d2⟩ := (HV.out.below hM.base).at_ hx
      have S1 := Side.sub (E' := [(1, Dt q K L), (2, Box wr.heap.size (boxV x))]) (hM.alloc 2 (boxV x)) (by simp)
      have KLn := side_dlen S1 (List.mem_cons_self ..)
      have KA := side_dadd S1 (by simp) HT.out
      have hw64 := wi_step hlt (by have := HL.out; omega)
      have b0 : (0 : Int) ≤ (m : Int) := Int.natCast_nonneg m
      have b1 : (m : Int) < (N : Int) := Int.ofNat_lt.2 hlt
      have HAD := Lib.hid (@added K L x)
      have HEC := Lib.hid (addE_cases K L x)
      obtain ⟨E, hEE⟩ : ∃ E, addE K L x = E := ⟨_, rfl⟩
      obtain ⟨I, hI⟩ : ∃ I, addI K L x = I := ⟨_, rfl⟩
      obtain ⟨M, hMM⟩ : ∃ M, addL K L x = M := ⟨_, rfl⟩
      obtain ⟨n, hn⟩ : ∃ n, L.length = n := ⟨_, rfl⟩
      rw [hEE, hI, hMM] at KA
      rw [hEE, hI, hMM, hn] at HAD
      rw [hEE] at HEC
      rw [hn] at KLn
      have HN5 := Lib.hid (hn ▸ side_len S1 (List.mem_cons_self ..))
      have e0 : (E = 0) ∨ ((E != 0) = true ∧ (E == 0) = false) := by
        rcases HEC.out with rfl | rfl | rfl
        · exact .inl rfl
        · exact .inr ⟨rfl, rfl⟩
        · exact .inr ⟨rfl, rfl⟩
      obtain ⟨k, y, s⟩ := x
      simp only [boxV] at d0 d1 d2 KA KLn
      clear hx hM S1 hEE hI hMM hn HS h1
      go_wp2_with fail
      refine KLn.mono ?_
      rintro e w2 ⟨rfl, rfl⟩
      clear KLn
      go_wp2_with fail
      refine KA.mono ?_
      rintro e w2 ⟨rfl, ho2⟩
      clear KA
      obtain ⟨f0, f1, f2⟩ := side_box ho2.out (i := 2) (List.mem_cons_of_mem _ (List.mem_cons_self ..))
      rcases e0 with rfl | ⟨e0, e1⟩
      · obtain ⟨a1, a2, a3, a4, a5⟩ := HAD.out rfl
        have KV : Calls Try.prog 17 #[.pointer (some ⟨q, 0, none⟩), .int .i64 (I : Int)] w2 fun e w' => e = .returned (.tuple #[vv k y s, .bool true]) ∧ Below w2.heap.size w2 w' := by
          have := side_dvalue ho2.out (List.mem_cons_self ..) (I : Int)
          rw [a1] at this
          exact this
        have HS3 := Lib.hid (fun W (hb : Below w2.heap.size w2 W) => Side.sub (E' := [(1, Dt q K M), (2, Box wr.heap.size (.cells #[.int .i64 k, .int .i64 y, .string s] 29 (0, 0))), (3, Box W.heap.size (.cells #[.int .i64 k, .int .i64 y, .string s] 29 (0, 0)))]) ((ho2.out.below hb).alloc 3 (.cells #[.int .i64 k, .int .i64 y, .string s] 29)) (by simp))
        have HA := Lib.hid (And.intro a2 (And.intro a3 (And.intro a4 a5)))
        have KE := neq_val
        have KU := guard_val
        clear a1 a2 a3 a4 a5 HAD HEC ho2
        go_wp2_with fail
        refine KV.mono ?_
        rintro e w3 ⟨rfl, hb⟩
        have S3 := HS3.out _ hb
        obtain ⟨g0, g1, g2⟩ := side_box S3 (i := 2) mem1
        have KF : Calls Try.prog 13 #[.pointer (some ⟨q, 0, none⟩), .agg #[.int .i64 k, .int .i64 y, .string s]] (w3.alloc (.cells #[.int .i64 k, .int .i64 y, .string s] 29)) fun e w' => e = .returned (.tuple #[.int .i64 (I : Int), .bool true]) ∧ Below (w3.alloc (.cells #[.int .i64 k, .int .i64 y, .string s] 29)).heap.size (w3.alloc (.cells #[.int .i64 k, .int .i64 y, .string s] 29)) w' := by
          have := side_dfind S3 (List.mem_cons_self ..) HT.out
          rw [HA.out.1] at this
          exact this
        have HS4 := Lib.hid S3
        clear KV HS3 hb S3 f0 f1 f2
        go_wp2_with fail
        refine KF.mono ?_
        rintro e w4 ⟨rfl, hb⟩
        have HS5 := Lib.hid (HS4.out.below hb)
        obtain ⟨f0, f1, f2⟩ := side_box HS5.out (i := 2) mem1
        obtain ⟨j0, j1, j2⟩ := side_box HS5.out (i := 3) mem2
        have KLn := side_dlen HS5.out (List.mem_cons_self ..)
        have hfin : Hid (∃ L, Side w [(1, Dt q K L)] w4) := Lib.hid ⟨M, HS5.out.sub (by simp)⟩
        have hMl := side_len HS5.out (List.mem_cons_self ..)
        obtain ⟨l, hl⟩ : ∃ l, M.length = l := ⟨_, rfl⟩
        rw [hl] at KLn
        have hA := HA.out
        rw [hl] at hA
        have w1 : IntKind.i64.wrap ((n : Int) + 1) = (n : Int) + 1 := by have := HN5.out; rw [IntKind.wrap_i64]; omega
        have p0 : ((I : Int) != (I : Int)) = false := by simp
        have p1 : decide ((n : Int) < (I : Int)) = false := decide_eq_false (by omega)
        have p2 : decide (n < I) = false := decide_eq_false (by omega)
        have p3 : decide ((n : Int) + 1 < (l : Int)) = false := decide_eq_false (by omega)
        have p4 : decide (n + 1 < l) = false := decide_eq_false (by omega)
        have p5 : ((I == n) = false ∧ ((I : Int) == (n : Int)) = false) ∨ ((I == n) = true ∧ ((I : Int) == (n : Int)) = true ∧ ((l : Int) != (n : Int) + 1) = false) := by
          by_cases e : I = n
          · have := hA.2.2.2 e
            exact .inr ⟨by rw [beq_iff_eq]; exact e, by rw [beq_iff_eq, e], by rw [bne_eq_false_iff_eq, this]; rfl⟩
          · exact .inl ⟨by rw [beq_eq_false_iff_ne]; exact e, by rw [beq_eq_false_iff_ne]; omega⟩
        clear hA hMl hl HS4 HS5 HA KF hb
        rcases p5 with ⟨p5, p6⟩ | ⟨p5, p6, p7⟩
        · go_wp2_with fail
          refine KLn.mono ?_
          rintro e w5 ⟨rfl, rfl⟩
          go_wp2_with fail
          go_roundw
          case rel => exact ⟨m + 1, by go_num, hlt, hfin⟩
          case measure => simp [RowKit.intOf]; omega
        · have KL2 := KLn
          go_wp2_with fail
          refine KLn.mono ?_
          rintro e w5 ⟨rfl, rfl⟩
          go_wp2_with fail
          refine KL2.mono ?_
          rintro e w5 ⟨rfl, rfl⟩
          go_wp2_with fail
          go_roundw
          case rel => exact ⟨m + 1, by go_num, hlt, hfin⟩
          case measure => simp [RowKit.intOf]; omega
      · have HS2 : Hid (∃ L, Side w [(1, Dt q K L)] w2) := Lib.hid ⟨M, ho2.out.sub (by simp)⟩
        clear ho2 HAD HEC
        go_wp2_with fail
        go_roundw
        case rel => exact ⟨m + 1, by go_num, hlt, HS2⟩
        case measure => simp [RowKit.intOf]; omega
    · obtain ⟨L, hM⟩ := HS.out
      have HB := Lib.hid hM.base
      clear HS hM h1
      go_wp2_with fail
      refine (KL _).mono ?_
      rintro e w' ⟨rfl, hb⟩
      have FB := Lib.hid (HB.out.trans (hb.mono HB.out.size))
      clear hb
      go_wp2_with fail
      go_ret
      exact ⟨rfl, FB.out⟩
end Go.Proofs.Ytdbaeghhlhkobaa
