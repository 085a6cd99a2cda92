/- 'm[k] op= v' on the digest's map: the two operations mapEntry and entryStore. Conditions: none. -/
import Derived.Test.YtahaoodklfmddaaDigMap
set_option maxRecDepth 100000
namespace Go.Proofs.Ytahaoodklfmddaa
open Go.RowKit Go.Maps Go.Sort Go.MapKept Go.ChangeMaps Go.ChangeShapes Go.WideShapes

theorem turned_setBlock {w : World} {b : Nat} {es es' : Array MapEntry} {c c' : Nat} (hb : w.heap[b]? = some (.map es c)) : w.mapTurned (setBlock w b (.map es' c')) b := ⟨es, c, es', c', hb, rfl⟩

theorem PAt.entry {w : World} {b : Nat} {L : DL} (h : PAt w b L) {id : Nat} (hid : KIn id) (hl : L.length < maxLen) :
    ∃ st w1 L1, (Instr.mapEntry 60 (.map (some b)) (kV id)).run Try.prog w = .ok (.tuple #[.int .i64 (dcnt L id), goInt st]) w1 ∧ PAt w1 b L1 ∧ dcnt L1 id = dcnt L id ∧ w.mapTurned w1 b ∧
      ∀ (w2 : World) (c : Int), InI c → w2.heap[b]? = w1.heap[b]? →
        ∃ w3, (Instr.entryStore 60 (.map (some b)) (goInt st) (.int .i64 c)).run Try.prog w2 = .ok () w3 ∧ PAt w3 b (putD id c L) ∧ w2.mapTurned w3 b := by
  obtain ⟨es, clock, hb, F, hs, hD⟩ := h.own
  have K : WideMaps.KeyLaw Try.prog 67 := KLaw
  have ht := Try.underlying60
  have hkey := kV_key hid
  obtain ⟨v0, st, es1, clock1, e1, e2, e3⟩ := WideElems.entry_then_store K ht zero_int hb F hkey
  have hlook := h.lookup hid
  have hst : ∀ (w2 : World) (c : Int), InI c → w2.heap[b]? = some (.map es1 clock1) → ∃ w3, (Instr.entryStore 60 (.map (some b)) (goInt st) (.int .i64 c)).run Try.prog w2 = .ok () w3 ∧ PAt w3 b (putD id c L) ∧ w2.mapTurned w3 b := by
    intro w2 c hc hw2
    obtain ⟨es', clock', g1, g2⟩ := e3 w2 (.int .i64 c) hw2
    obtain ⟨w', u1, u2, _⟩ := h.update hid hc hl
    rw [g2] at u1
    injection u1 with _ u1
    subst u1
    refine ⟨_, g1, u2.of_block ?_, turned_setBlock hw2⟩
    rw [heap_setBlock_same hw2 _, heap_setBlock_same hb _]
  have hb1 : (setBlock w b (.map es1 clock1)).heap[b]? = some (.map es1 clock1) := heap_setBlock_same hb _
  have hz := zero_int w
  rcases K.find w hkey es.toList F.keys with ⟨h1, h2⟩ | ⟨j, e0, h1, h2, h3⟩
  · have hc0 : dcnt L id = 0 := by
      simp [Instr.lookup, run_underlying ht, MapKept.run_getObj_map hb, K.check w es.isEmpty hkey, h1, hz, Result.andThen] at hlook
      exact hlook.symm
    have r1 : (Instr.mapEntry 60 (.map (some b)) (kV id)).run Try.prog w = .ok (.tuple #[.int .i64 0, goInt clock]) (setBlock w b (.map (es.push ⟨kV id, .int .i64 0, clock⟩) (clock + 1))) := by
      simp [Instr.mapEntry, run_underlying ht, MapKept.run_getObj_map hb, K.check w false hkey, h1, hz, MapKept.run_setObj_map _ hb, Result.andThen, setBlock]
    have r2 : (Instr.mapUpdate 60 (.map (some b)) (kV id) (.int .i64 0)).run Try.prog w = .ok () (setBlock w b (.map (es.push ⟨kV id, .int .i64 0, clock⟩) (clock + 1))) := by
      simp [Instr.mapUpdate, run_underlying ht, MapKept.run_getObj_map hb, K.check w false hkey, h1, MapKept.run_setObj_map _ hb, Result.andThen, setBlock]
    obtain ⟨w', u1, u2, u3⟩ := h.update hid (c := 0) (by unfold InI; omega) hl
    rw [r2] at u1
    injection u1 with _ u1
    rw [r1] at e1
    injection e1 with e1 e1'
    rw [← u1, e1'] at u2 u3
    have hv : v0 = .int .i64 0 := by
      rcases e2 with ⟨e0, m1, m2, _⟩ | ⟨_, e2⟩
      · exact absurd m2 (h2 e0 m1)
      · exact e2
    refine ⟨st, setBlock w b (.map es1 clock1), putD id 0 L, ?_, u2, ?_, u3, fun w2 c hc hw2 => hst w2 c hc (hw2.trans hb1)⟩
    · rw [r1, e1, hv, hc0, e1']
    · rw [dcnt_putD h.asc, if_pos rfl, hc0]
  · have hj : es[j]? = some e0 := by simpa using h2
    have hsame : es.modify j (fun e => { e with key := kV id }) = es := by
      apply Array.ext'
      rw [Array.toList_modify, modify_eq_set _ _ _ _ h2]
      have : ({ e0 with key := kV id } : MapEntry) = e0 := by rw [← h3]
      rw [this]
      exact WideElems.set_self _ _ _ h2
    have hc0 : e0.val = .int .i64 (dcnt L id) := by
      simp [Instr.lookup, run_underlying ht, MapKept.run_getObj_map hb, K.check w es.isEmpty hkey, h1, Result.andThen] at hlook
      exact hlook
    have r1 : (Instr.mapEntry 60 (.map (some b)) (kV id)).run Try.prog w = .ok (.tuple #[e0.val, goInt e0.born]) (setBlock w b (.map es clock)) := by
      simp [Instr.mapEntry, run_underlying ht, MapKept.run_getObj_map hb, K.check w false hkey, h1, hj, h3, K.stays w hkey, hsame, MapKept.run_setObj_map _ hb, Result.andThen, setBlock]
    rw [r1] at e1
    injection e1 with e1 e1'
    have hh : (setBlock w b (.map es1 clock1)).heap[b]? = w.heap[b]? := by
      rw [← e1', heap_setBlock_same hb _, hb]
    refine ⟨st, setBlock w b (.map es1 clock1), L, ?_, h.of_block hh, rfl, turned_setBlock hb, fun w2 c hc hw2 => hst w2 c hc (hw2.trans hb1)⟩
    rw [r1, e1', e1, ← hc0]
    simp at e1
    rw [e1.1]
end Go.Proofs.Ytahaoodklfmddaa
