/-
  told, keyOf; an entry that is made and written.
-/
import Derived.Test.YtcadkclppejdgaaRMvr

namespace Go.Proofs.Ytcadkclppejdgaa
open Go.RowKit Go.Maps
set_option linter.unusedVariables false

set_option maxHeartbeats 400000 in
theorem told_any (p s q f cp cl t k v : Int) (st : ByteArray) (w : World) :
    Calls Try.prog 105 #[.agg #[.int .i64 p, .int .i64 s, .int .i64 q, .int .i64 f, .int .i64 cp, .int .i64 cl, .int .i64 t, .int .i64 k, .int .i64 v, .string st]] w fun e w' => e = .returned (.agg #[.int .i64 cp, .int .i64 cl]) ∧ Below w.heap.size w w' := by
  go_enter Try.func105, Try.ntmps105
  go_wp2
  go_returns
  exact ⟨rfl, by go_grown⟩

set_option maxHeartbeats 400000 in
theorem keyOf_any (t k v : Int) (st : ByteArray) (w : World) :
    Calls Try.prog 80 #[.agg #[.int .i64 t, .int .i64 k, .int .i64 v, .string st]] w fun e w' => e = .returned (.agg #[.int .i64 t, .int .i64 k]) ∧ Below w.heap.size w w' := by
  go_enter Try.func80, Try.ntmps80
  go_wp2
  go_returns
  exact ⟨rfl, by go_grown⟩

open Go.WideElems Go.ChangeMaps in
theorem entry_all {P : Program} {w : World} {t k e : TypeId} {R : Value → Option (DataW Value × List MemPlace)} {b : Nat} {es : Array MapEntry} {clock : Nat} (K : WideMaps.KeyLaw P k) (ht : P.underlying t = some (.map k e)) {z : Value} (hz : ∀ u : World, (zeroValue e).run P u = .ok z u) (hb : w.heap[b]? = some (.map es clock)) (F : Fit P k R es clock)
    {key : Value} {kl : Lit} (hkey : keyOf P k key = some kl) :
    ∃ (v0 : Value) (st : Nat) (es1 : Array MapEntry) (clock1 : Nat), (Instr.mapEntry t (.map (some b)) key).run P w = .ok (.tuple #[v0, goInt st]) (setBlock w b (.map es1 clock1)) ∧
      (Instr.lookup t (.map (some b)) key false).run P w = .ok v0 w ∧ (Instr.mapUpdate t (.map (some b)) key v0).run P w = .ok () (setBlock w b (.map es1 clock1)) ∧
      ∀ (w2 : World) (val : Value), w2.heap[b]? = some (.map es1 clock1) → ∃ es' clock', (Instr.entryStore t (.map (some b)) (goInt st) val).run P w2 = .ok () (setBlock w2 b (.map es' clock')) ∧
        (Instr.mapUpdate t (.map (some b)) key val).run P w = .ok () (setBlock w b (.map es' clock')) := by
  obtain ⟨v0, st, es1, clock1, h1, h2, h3⟩ := entry_then_store K ht hz hb F hkey
  refine ⟨v0, st, es1, clock1, h1, ?_, ?_, h3⟩
  · rcases K.find w hkey es.toList F.keys with ⟨g1, g2⟩ | ⟨j, e0, g1, g2, g3⟩
    · simp [Instr.mapEntry, run_underlying ht, MapKept.run_getObj_map hb, K.check w false hkey, g1, hz, MapKept.run_setObj_map _ hb, Result.andThen, setBlock] at h1
      obtain ⟨⟨rfl, _⟩, _⟩ := h1
      simp [Instr.lookup, run_underlying ht, MapKept.run_getObj_map hb, K.check w _ hkey, g1, hz, Result.andThen]
    · have hj : es[j]? = some e0 := by simpa using g2
      simp [Instr.mapEntry, run_underlying ht, MapKept.run_getObj_map hb, K.check w false hkey, g1, hj, g3, K.stays w hkey, MapKept.run_setObj_map _ hb, Result.andThen, setBlock] at h1
      obtain ⟨⟨rfl, _⟩, _⟩ := h1
      simp [Instr.lookup, run_underlying ht, MapKept.run_getObj_map hb, K.check w _ hkey, g1, Result.andThen]
  · rcases K.find w hkey es.toList F.keys with ⟨g1, g2⟩ | ⟨j, e0, g1, g2, g3⟩
    · simp [Instr.mapEntry, run_underlying ht, MapKept.run_getObj_map hb, K.check w false hkey, g1, hz, MapKept.run_setObj_map _ hb, Result.andThen, setBlock] at h1
      obtain ⟨⟨rfl, _⟩, h1⟩ := h1
      simp [Instr.mapUpdate, run_underlying ht, MapKept.run_getObj_map hb, K.check w false hkey, g1, MapKept.run_setObj_map _ hb, Result.andThen, setBlock]
      exact h1
    · have hj : es[j]? = some e0 := by simpa using g2
      have hsame : es.modify j (fun e => { e with key := key }) = es := by
        apply Array.ext'
        rw [Array.toList_modify, modify_eq_set _ _ _ _ g2]
        have : ({ e0 with key := key } : MapEntry) = e0 := by rw [← g3]
        rw [this]
        exact set_self _ _ _ g2
      have hsame2 : es.modify j (fun e => { e with key := key, val := e0.val }) = es := by
        apply Array.ext'
        rw [Array.toList_modify, modify_eq_set _ _ _ _ g2]
        have : ({ e0 with key := key, val := e0.val } : MapEntry) = e0 := by rw [← g3]
        rw [this]
        exact set_self _ _ _ g2
      simp [Instr.mapEntry, run_underlying ht, MapKept.run_getObj_map hb, K.check w false hkey, g1, hj, g3, K.stays w hkey, hsame, MapKept.run_setObj_map _ hb, Result.andThen, setBlock] at h1
      obtain ⟨⟨rfl, _⟩, h1⟩ := h1
      simp [Instr.mapUpdate, run_underlying ht, MapKept.run_getObj_map hb, K.check w false hkey, g1, hj, g3, K.stays w hkey, hsame2, MapKept.run_setObj_map _ hb, Result.andThen, setBlock]
      exact h1

theorem MapF.entry2 {K : TypeId} {w : World} {b sz : Nat} {f : Int → Int → Option Value} (h : MapF K w b f sz) (T : KeyT K) (L : WideMaps.KeyLaw Try.prog K) {t e : TypeId} (ht : Try.prog.underlying t = some (.map K e)) {z : Value} (hz : ∀ u : World, (zeroValue e).run Try.prog u = .ok z u) {x y : Int} (hk : Kw x y) (hs : sz < 1000000) :
    ∃ v0 st w1, (Instr.mapEntry t (.map (some b)) (kv x y)).run Try.prog w = .ok (.tuple #[v0, goInt st]) w1 ∧ w.mapTurned w1 b ∧ (Instr.lookup t (.map (some b)) (kv x y) false).run Try.prog w1 = .ok ((f x y).getD z) w1 ∧
      ∀ v, ∃ w2, (Instr.entryStore t (.map (some b)) (goInt st) v).run Try.prog w1 = .ok () w2 ∧ MapF K w2 b (upd f x y (some v)) (nSz (f x y) sz) ∧ w1.mapTurned w2 b := by
  have h' := h
  obtain ⟨D, ⟨es, clock, hb, F, hes, rfl⟩, _⟩ := h'
  obtain ⟨v0, st, es1, clock1, h1, h2, h2', h3⟩ := entry_all L ht hz hb F (T.rd x y hk)
  have hv0 : v0 = (f x y).getD z := by
    have := h.look T ht (hz w) hk
    rw [h2] at this
    simpa using this
  have hb1 : (ChangeMaps.setBlock w b (.map es1 clock1)).heap[b]? = some (.map es1 clock1) := ChangeMaps.heap_setBlock_same hb _
  refine ⟨v0, st, _, h1, ⟨es, clock, es1, clock1, hb, rfl⟩, ?_, fun v => ?_⟩
  · obtain ⟨w', h6, h7, h8⟩ := h.store T ht hk v0 hs
    rw [h2'] at h6
    simp at h6
    rw [h6, h7.look T ht (hz w') hk]
    simp [upd, hv0]
  obtain ⟨es', clock', h4, h5⟩ := h3 (ChangeMaps.setBlock w b (.map es1 clock1)) v hb1
  obtain ⟨w', h6, h7, h8⟩ := h.store T ht hk v hs
  rw [h5] at h6
  simp at h6
  refine ⟨_, h4, ?_, ⟨es1, clock1, es', clock', hb1, rfl⟩⟩
  have : ChangeMaps.setBlock (ChangeMaps.setBlock w b (.map es1 clock1)) b (.map es' clock') = w' := by
    rw [← h6]; simp [ChangeMaps.setBlock]
  rw [this]; exact h7

end Go.Proofs.Ytcadkclppejdgaa
