/- slices.SortStableFunc at []heavy.Counter, at any length: a permutation in order, those alike as they stood. Conditions: as stated. -/
import Derived.Test.YtlhpbfjelgmkeaaGreatShelfD
import Derived.Test.YtlhpbfjelgmkeaaGreatStableMerge
import Derived.Test.YtlhpbfjelgmkeaaGreatShelf
set_option maxRecDepth 1000000
namespace Go.Proofs.YtlhpbfjelgmkeaaGreat.Hvy
open Go.Shelf Go.RowKit Go.Lib Go.Sort

section
variable {g : Nat} {cf : Int × Int → Int × Int → Int} {lt : Int × Int → Int × Int → Bool} {Rr : Int × Int → Int × Int → Prop} {w0 : World} {blk off : Nat} {d0 : Array (Int × Int)}
theorem symMerge_any (O : Ord g cf lt Rr w0 blk off d0) (cap : Nat) : ∀ (f : Nat) (a m b : Nat) (dk : Array (Int × Int)) (W : World), b - a ≤ f → dk.size = d0.size → SWK encP 2 w0 blk off dk W → Two lt Rr dk a m b → a < m → m < b → b ≤ d0.size →
      Calls Tryz.prog 299 #[.slice (some ⟨blk, off, none⟩) d0.size cap, .int .i64 a, .int .i64 m, .int .i64 b, .func (.func g) #[] #[]] W fun e w' => e = .returned (.tuple #[]) ∧ Hid (MergedAt lt w0 blk off a b dk w')
  | 0, a, m, b, dk, W, hf, _, _, _, h1, h2, _ => by omega
  | f + 1, a, m, b, dk, W, hf, hd, S, hT, h1, h2, h3 => by
    by_cases c1 : m = a + 1
    · subst c1
      have := merge_first O (cap := cap) hd.symm S hT h2 (by omega)
      rw [hd] at this
      exact this.mono fun _ _ ⟨e, h⟩ => ⟨e, h.out⟩
    · by_cases c2 : b = m + 1
      · subst c2
        have := merge_second O (cap := cap) hd.symm S hT (by omega) (by omega)
        rw [hd] at this
        exact this.mono fun _ _ ⟨e, h⟩ => ⟨e, h.out⟩
      · have := merge_main O (cap := cap) hd.symm S hT (by omega) (by omega) (by omega) (Lib.hid fun a' m' b' d' W' q1 q2 q3 q4 q5 q6 q7 => by
          rw [hd]
          exact symMerge_any O cap f a' m' b' d' W' (by omega) (by omega) q3 q4 q5 q6 (by omega))
        rw [hd] at this
        exact this

theorem insertion_at (O : Ord g cf lt Rr w0 blk off d0) (cap : Nat) {a b : Nat} {dk : Array (Int × Int)} {W : World} (hd : dk.size = d0.size) (S : SWK encP 2 w0 blk off dk W) (hab : a ≤ b) (hb : b ≤ d0.size) (hR : ∀ x y, a ≤ x → x < y → y < b → Rr dk[x]! dk[y]!) :
      Calls Tryz.prog 291 #[.slice (some ⟨blk, off, none⟩) d0.size cap, .int .i64 a, .int .i64 b, .func (.func g) #[] #[]] W fun e w' => e = .returned (.tuple #[]) ∧ Hid (MergedAt lt w0 blk off a b dk w') := by
  have L : SlLaysF0.n20 Tryz.prog Tryz.sortCounter_ren := { Tryz.sortCounter with }
  have hC : CmpLays Tryz.prog g #[] encP 2 cf blk off dk.size W := fun m os dj hdj x y => by
    obtain ⟨n0, os0, rfl⟩ := S
    rw [sortWorldK_on encP 2 w0 blk off n0 m dk dj os0 os O.row.hblk hdj]
    exact O.cmp _ _ dj (by omega) x y
  have h := insertion_alike O.swo O.like hab (by omega : b ≤ dk.size) hR
  have hs : (insertionSort (ltOf cf) dk a b).size = dk.size := h.1.1
  have := AnyQ.insertionSortCmpFunc L 2 Tryz.isAgg344 Tryz.sizeOf344 encP encP_len encP_one cf g #[] blk off cap a b dk W O.eg hC (S.holds O.row.hblk O.row.hH hd) (S.lt O.row.hblk) hab (by omega) (by have := O.size; omega)
  rw [hd] at this
  refine this.mono ?_
  rintro e w' ⟨rfl, n, os, rfl⟩
  exact ⟨rfl, insertionSort (ltOf cf) dk a b, S.on O.row.hblk n _ os hs, h.1, h.2⟩

theorem mid_whole {big small n : Nat} {d : Array (Int × Int)} (h : Mid lt Rr big small 0 n d) (hn : n ≤ small) : SortedIn lt 0 n d := by
  rcases Nat.eq_zero_or_pos n with rfl | p
  · intro i j h1 h2 h3; omega
  · have := h.todo 0 (Nat.dvd_zero _) (Nat.le_refl _) p
    rwa [Nat.zero_add, Nat.min_eq_right hn] at this

/-- where the blocks stand -/
def MidAt (lt : Int × Int → Int × Int → Bool) (Rr : Int × Int → Int × Int → Prop) (w0 : World) (blk off : Nat) (d0 : Array (Int × Int)) (big small a : Nat) (W : World) : Prop :=
  ∃ dk, SWK encP 2 w0 blk off dk W ∧ PermIn 0 d0.size d0 dk ∧ Mid lt Rr big small a d0.size dk
theorem MidAt.step {big small a e : Nat} {dk : Array (Int × Int)} (hM : Mid lt Rr big small a d0.size dk) (hP : PermIn 0 d0.size d0 dk) (ha : big ∣ a) (hp : 0 < big) (he : e = min (a + big) d0.size) {w' : World} (h : MergedAt lt w0 blk off a e dk w') :
    MidAt lt Rr w0 blk off d0 big small (a + big) w' := by
  obtain ⟨d', h1, h2, h3⟩ := h
  subst he
  have hsz : dk.size = d0.size := hP.1
  exact ⟨d', h1, permIn_trans _ _ _ _ _ hP (permIn_mono dk d' a _ 0 d0.size (Nat.zero_le _) (Nat.min_le_right _ _) (by omega) h2), hM.step ha hp (by omega) h2 h3⟩

set_option maxHeartbeats 16000000 in
theorem stable_any (O : Ord g cf lt Rr w0 blk off d0) (cap : Nat) (hR : ∀ i j, i < j → j < d0.size → Rr d0[i]! d0[j]!) :
    Calls Tryz.prog 290 #[.slice (some ⟨blk, off, none⟩) d0.size cap, .int .i64 d0.size, .func (.func g) #[] #[]] w0 fun e w' =>
      e = .returned (.tuple #[]) ∧ Hid (MergedAt lt w0 blk off 0 d0.size d0 w') := by
  have HO : Hid (Ord g cf lt Rr w0 blk off d0) := O
  have hsz := O.size
  have M0 : Hid (MidAt lt Rr w0 blk off d0 20 1 0 w0) := ⟨d0, SWK.start O.row.hH, permIn_refl d0 0 _, Mid.first hR 20⟩
  obtain ⟨n, hn⟩ : ∃ n, d0.size = n := ⟨_, rfl⟩
  have HN : Hid (d0.size = n) := hn
  rw [hn] at hsz ⊢
  clear O hR hn
  go_enter Tryz.func290, Tryz.ntmps290
  go_wp2_with fail
  go_loopg [7, 8] n (fun kx sa sb wr => ∃ a : Nat, sa = .int .i64 a ∧ sb = .int .i64 ((a : Int) + 20) ∧ a ≤ n ∧ n - a ≤ kx ∧ Hid (20 ∣ a) ∧ Hid (MidAt lt Rr w0 blk off d0 20 1 a wr))
  case atStart => exact ⟨0, rfl, rfl, Nat.zero_le _, by omega, Nat.dvd_zero _, M0⟩
  case round =>
    clear M0
    obtain ⟨a, rfl, rfl, han, hkx, HD, HM⟩ := hrel
    by_cases hlt : a + 20 ≤ n
    · have hz : (a : Int) + 20 ≤ (n : Int) := by omega
      obtain ⟨dk, m1, m2, m3⟩ := HM.out
      have K := insertion_at HO.out cap (a := a) (b := a + 20) (dk := dk) m2.1 m1 (by omega) (by have := HN.out; omega) (fun x y q1 q2 q3 => m3.cuts y (Nat.one_dvd _) (by omega) x y q2 (Nat.le_refl _) (by have := HN.out; omega))
      have NX : Hid (∀ W, MergedAt lt w0 blk off a (a + 20) dk W → MidAt lt Rr w0 blk off d0 20 1 (a + 20) W) := Lib.hid fun W h => MidAt.step m3 m2 HD.out (by decide) (by have := HN.out; omega) h
      rw [HN.out, Int.natCast_add] at K
      clear m1 m2 m3 HM
      go_wp2_with fail
      refine K.mono ?_
      rintro e w1 ⟨rfl, H1⟩
      clear K
      go_wp2_with fail
      go_roundg (n - (a + 20))
      case measure => omega
      case rel => exact ⟨a + 20, by simp, by simp, hlt, Nat.le_refl _, Nat.dvd_add HD.out (Nat.dvd_refl _), NX.out _ H1.out⟩
    · have hz : ¬ (a : Int) + 20 ≤ (n : Int) := by omega
      obtain ⟨dk, m1, m2, m3⟩ := HM.out
      have K := insertion_at HO.out cap (a := a) (b := n) (dk := dk) m2.1 m1 (by omega) (by have := HN.out; omega) (fun x y q1 q2 q3 => m3.cuts y (Nat.one_dvd _) (by omega) x y q2 (Nat.le_refl _) (by have := HN.out; omega))
      have NX : Hid (∀ W, MergedAt lt w0 blk off a n dk W → MidAt lt Rr w0 blk off d0 (2 * 20) 20 0 W) := Lib.hid fun W h => by
        obtain ⟨d', k1, k2, k3⟩ := MidAt.step m3 m2 HD.out (by decide) (e := n) (by have := HN.out; omega) h
        exact ⟨d', k1, k2, k3.next (by have := HN.out; omega) (Nat.dvd_mul_left _ _)⟩
      rw [HN.out] at K
      clear m1 m2 m3 HM HD
      go_wp2_with fail
      refine K.mono ?_
      rintro e w1 ⟨rfl, H1⟩
      have M1 : Hid (MidAt lt Rr w0 blk off d0 (2 * 20) 20 0 w1) := NX.out _ H1.out
      clear K NX H1 hkx han hlt hz
      go_wp2_with fail
      go_loopg [6] n (fun kx ss wr => ∃ bs : Nat, ss = .int .i64 bs ∧ 0 < bs ∧ bs ≤ 20 + 2 * n ∧ n - bs ≤ kx ∧ Hid (MidAt lt Rr w0 blk off d0 (2 * bs) bs 0 wr))
      case atStart => exact ⟨20, rfl, by omega, by omega, by omega, M1⟩
      case round =>
        clear M1
        obtain ⟨bs, rfl, hb0, hbn, hkx, HM⟩ := hrel
        by_cases hlt : bs < n
        · have hz : (bs : Int) < (n : Int) := by omega
          obtain ⟨B, hB⟩ : ∃ B, 2 * bs = B := ⟨_, rfl⟩
          have HB : Hid (2 * bs = B) := hB
          have tb : 2 * (bs : Int) = (B : Int) := by omega
          have b1 : B ≤ 2 * bs := by omega
          have b2 : 2 * bs ≤ B := by omega
          rw [hB] at HM
          clear hB
          go_wp2_with fail
          go_loopg [7, 8] n (fun ky sa sb wr2 => ∃ a : Nat, sa = .int .i64 a ∧ sb = .int .i64 ((a : Int) + (B : Int)) ∧ a ≤ n ∧ n - a ≤ ky ∧ Hid (B ∣ a) ∧ Hid (MidAt lt Rr w0 blk off d0 B bs a wr2))
          case atStart => exact ⟨0, rfl, by simp, Nat.zero_le _, by omega, Nat.dvd_zero _, HM⟩
          case round =>
            clear HM
            obtain ⟨a, rfl, rfl, han, hky, HD, HM⟩ := hrel
            obtain ⟨dk, m1, m2, m3⟩ := HM.out
            have HSD : Hid (bs ∣ a) := Nat.dvd_trans (HB.out ▸ Nat.dvd_mul_left _ _) HD.out
            by_cases hle : a + B ≤ n
            · have hz2 : (a : Int) + (B : Int) ≤ (n : Int) := by omega
              have K := symMerge_any HO.out cap B a (a + bs) (a + B) dk wr (by omega) m2.1 m1 (m3.two HSD.out rfl (by have := HN.out; omega) (by have := HN.out; omega) (by omega)) (by omega) (by omega) (by have := HN.out; omega)
              have NX : Hid (∀ W, MergedAt lt w0 blk off a (a + B) dk W → MidAt lt Rr w0 blk off d0 B bs (a + B) W) := Lib.hid fun W h => MidAt.step m3 m2 HD.out (by omega) (by have := HN.out; omega) h
              rw [HN.out, Int.natCast_add, Int.natCast_add] at K
              clear m1 m2 m3 HM
              go_wp2_with fail
              refine K.mono ?_
              rintro e w2 ⟨rfl, H1⟩
              clear K
              go_wp2_with fail
              go_roundg (n - (a + B))
              case measure => omega
              case rel => exact ⟨a + B, by simp, by simp, hle, Nat.le_refl _, Nat.dvd_add HD.out (Nat.dvd_refl _), NX.out _ H1.out⟩
            · have hz2 : ¬ (a : Int) + (B : Int) ≤ (n : Int) := by omega
              have FX : Hid (∀ W, MergedAt lt w0 blk off a n dk W → MidAt lt Rr w0 blk off d0 (2 * B) B 0 W) := Lib.hid fun W h => by
                obtain ⟨d', k1, k2, k3⟩ := MidAt.step m3 m2 HD.out (by omega) (e := n) (by have := HN.out; omega) h
                exact ⟨d', k1, k2, k3.next (by have := HN.out; omega) (Nat.dvd_mul_left _ _)⟩
              by_cases hm : a + bs < n
              · have hz3 : (a : Int) + (bs : Int) < (n : Int) := by omega
                have K := symMerge_any HO.out cap n a (a + bs) n dk wr (by omega) m2.1 m1 (m3.two HSD.out rfl (by have := HN.out; omega) (by have := HN.out; omega) (by omega)) (by omega) hm (by have := HN.out; omega)
                rw [HN.out, Int.natCast_add] at K
                clear m1 m2 m3 HM
                go_wp2_with fail
                refine K.mono ?_
                rintro e w2 ⟨rfl, H1⟩
                clear K
                go_wp2_with fail
                go_roundg (n - B)
                case measure => omega
                case rel => exact ⟨B, by first | rfl | go_num | (simp; omega), by omega, by omega, Nat.le_refl _, FX.out _ H1.out⟩
              · have hz3 : ¬ (a : Int) + (bs : Int) < (n : Int) := by omega
                have H1 : Hid (MergedAt lt w0 blk off a n dk wr) := by
                  refine ⟨dk, m1, permIn_refl dk a n, ?_⟩
                  rcases Nat.lt_or_ge a n with g1 | g1
                  · have := m3.todo a HSD.out (Nat.le_refl _) (by have := HN.out; omega)
                    rwa [HN.out, Nat.min_eq_right (by omega)] at this
                  · intro i j q1 q2 q3; omega
                clear m1 m2 m3 HM
                go_wp2_with fail
                go_roundg (n - B)
                case measure => omega
                case rel => exact ⟨B, by first | rfl | go_num | (simp; omega), by omega, by omega, Nat.le_refl _, FX.out _ H1.out⟩
        · have hz : ¬ (bs : Int) < (n : Int) := by omega
          obtain ⟨dk, m1, m2, m3⟩ := HM.out
          have FIN : Hid (MergedAt lt w0 blk off 0 n d0 wr) := by
            rw [HN.out] at m2 m3
            exact ⟨dk, m1, m2, mid_whole m3 (by omega)⟩
          clear m1 m2 m3 HM
          go_wp2_with fail
          go_end0
          exact ⟨rfl, FIN⟩

theorem sortStable_any (O : Ord g cf lt Rr w0 blk off d0) (cap : Nat) (hR : ∀ i j, i < j → j < d0.size → Rr d0[i]! d0[j]!) :
    Calls Tryz.prog 285 #[.slice (some ⟨blk, off, none⟩) d0.size cap, .func (.func g) #[] #[]] w0 fun e w' =>
      e = .returned (.tuple #[]) ∧ Hid (MergedAt lt w0 blk off 0 d0.size d0 w') := by
  have K := stable_any O cap hR
  clear O hR
  go_enter Tryz.func285, Tryz.ntmps285
  go_wp2_with fail
  refine K.mono ?_
  rintro e w' ⟨rfl, H⟩
  clear K
  go_wp2_with fail
  go_end0
  exact ⟨rfl, H⟩
end
end Go.Proofs.YtlhpbfjelgmkeaaGreat.Hvy
