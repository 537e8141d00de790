/-
  The program's movedRows: where moved rows stand.
-/
import Derived.Test.YteebbaleejbodaaARPgb

namespace Go.Proofs.Yteebbaleejbodaa
open Go.RowKit Go.Maps
set_option linter.unusedVariables false

theorem wpList_store_mf {K : TypeId} (w : World) {ops : Array Oper} {rest : List Oper} {o : Oper} {a : Act} {Q : Exit → Act → World → Prop} {b sz : Nat} {f : Int → Int → Option Value}
    (hg : o.guard = none) (m x v : Operand) (t : TypeId) (hop : o.op = Op.mapUpdate t m x v) (T : KeyT K) (e : TypeId) (ht : Try.prog.underlying t = some (.map K e))
    (hm : a.eval m = .map (some b)) (h : MapF K w b f sz) (x' y' : Int) (hx : a.eval x = kv x' y') (val : Value) (hv : a.eval v = val) (hk : Kw x' y') (hs : sz < 1000000)
    (hK : ∀ w', MapF K w' b (upd f x' y' (some val)) (nSz (f x' y') sz) → w.mapTurned w' b → wpList Try.prog ops Q rest (a.put o.dst undef) w') : wpList Try.prog ops Q (o :: rest) a w := by
  refine wpList_plain hg fun K' hK' => ?_
  obtain ⟨w', hrun, r1, r2⟩ := h.store T ht hk val hs
  unfold Oper.wp
  simp [execOp, hop, hm, hx, hv, hrun, Result.andThen]
  exact hK' _ _ (hK w' r1 r2)

/-- Ten cells of a cell and its place. -/
structure SpC (w : World) (b o : Nat) (x : Spt) : Prop where
  c0 : w.cell? ⟨b, o, none⟩ = some (.int .i64 x.p)
  c1 : w.cell? ⟨b, o + 1, none⟩ = some (.int .i64 x.s)
  c2 : w.cell? ⟨b, o + 2, none⟩ = some (.int .i64 x.c.q)
  c3 : w.cell? ⟨b, o + 3, none⟩ = some (.int .i64 x.c.f)
  c4 : w.cell? ⟨b, o + 4, none⟩ = some (.int .i64 x.c.p)
  c5 : w.cell? ⟨b, o + 5, none⟩ = some (.int .i64 x.c.l)
  c6 : w.cell? ⟨b, o + 6, none⟩ = some (.int .i64 x.c.t)
  c7 : w.cell? ⟨b, o + 7, none⟩ = some (.int .i64 x.c.k)
  c8 : w.cell? ⟨b, o + 8, none⟩ = some (.int .i64 x.c.v)
  c9 : w.cell? ⟨b, o + 9, none⟩ = some (.string x.c.s)

theorem SpC.of {w : World} {b o : Nat} {x : Spt} (h : ∀ j u, (spE x)[j]? = some u → w.cell? ⟨b, o + j, none⟩ = some u) : SpC w b o x :=
  ⟨h 0 _ rfl, h 1 _ rfl, h 2 _ rfl, h 3 _ rfl, h 4 _ rfl, h 5 _ rfl, h 6 _ rfl, h 7 _ rfl, h 8 _ rfl, h 9 _ rfl⟩
theorem SpC.below {w w' : World} {b o : Nat} {x : Spt} (h : SpC w b o x) {B : Nat} (hb : Below B w w') (hB : b < B) : SpC w' b o x :=
  have up : ∀ (p : Nat) (v : Value), w.cell? ⟨b, p, none⟩ = some v → w'.cell? ⟨b, p, none⟩ = some v := fun p v h => (hb.cell (p := ⟨b, p, none⟩) hB).trans h
  ⟨up _ _ h.c0, up _ _ h.c1, up _ _ h.c2, up _ _ h.c3, up _ _ h.c4, up _ _ h.c5, up _ _ h.c6, up _ _ h.c7, up _ _ h.c8, up _ _ h.c9⟩
theorem SpC.lt {w : World} {b o : Nat} {x : Spt} (h : SpC w b o x) : b < w.heap.size := World.block_lt_of_cell? w _ h.c0
theorem Rs.spot {w : World} {a : Option Addr} {xs : List Spt} (h : Rs spE 10 w a xs) {i : Nat} {x : Spt} (hx : xs[i]? = some x) : ∃ b off, a = some ⟨b, off, none⟩ ∧ SpC w b (off + i * 10) x := by
  rcases h with h | ⟨b, off, ha, hc⟩
  · rw [h] at hx; simp at hx
  · exact ⟨b, off, ha, SpC.of (hc i x hx)⟩

def small (z : Int) : Prop := 0 ≤ z ∧ z ≤ 100000
theorem small_wf {z : Int} (h : small z) : (Lit.int .i64 z).wf = true := by
  obtain ⟨h1, h2⟩ := h
  simp [Lit.wf, IntKind.min, IntKind.max, IntKind.bits, IntKind.signed]
  omega
theorem kw_small {x y : Int} (h : small x) (h' : small y) : Kw x y := ⟨small_wf h, small_wf h'⟩
/-- What is known of a cell of right pages. -/
structure SpOk (x : Spt) : Prop where
  p : small x.p
  s : small x.s
  cp : small x.c.p
  cl : small x.c.l
  ct : small x.c.t
  ck : small x.c.k
  q : x.c.q = 0
  f : x.c.f = 0 ∨ x.c.f = 1 ∨ x.c.f = 2
  sz : x.c.s.size ≤ 64

def rowV (x : Spt) : Value := .agg #[.int .i64 x.c.t, .int .i64 x.c.k, .int .i64 x.c.v, .string x.c.s]
/-- Moved rows by their places. -/
def mvS (f : Int → Int → Option Value) (x : Spt) : Int → Int → Option Value := if x.c.f = 2 then upd f x.p x.s (some (rowV x)) else f
def mvF (xs : List Spt) : Int → Int → Option Value := xs.foldl mvS (fun _ _ => none)

theorem mvF_snoc (xs : List Spt) (x : Spt) : mvF (xs ++ [x]) = mvS (mvF xs) x := by simp [mvF, List.foldl_append]

theorem turned_below {w w' : World} {b B : Nat} (h : w.mapTurned w' b) (hB : B ≤ b) (hs : b < w.heap.size) : Below B w w' := by
  have g := h.grown
  exact ⟨g.os, g.tape, g.output, g.size, fun k hk => g.block k (by omega) (fun e => by injection e with e; omega)⟩

set_option maxHeartbeats 2000000 in
theorem movedRows_any (a : Option Addr) (xs : List Spt) (n c : Nat) (w : World) (hn : xs.length = n) (hm : n ≤ 1000) (hk : ∀ x ∈ xs, SpOk x) (hr : Rs spE 10 w a xs) :
    Calls Try.prog 150 #[.slice a n c] w fun e w' => e = .returned (.map (some w.heap.size)) ∧ Below w.heap.size w w' ∧ ∃ sz, sz ≤ n ∧ MapF 250 w' w.heap.size (mvF xs) sz := by
  have hmm := @run_makeMap Try.prog
  have HN : Hid (xs.length = n) := hn
  have HK : Hid (∀ x ∈ xs, SpOk x) := hk
  have HR : Hid (Rs spE 10 w a xs) := hr
  clear hn hk hr
  go_enter Try.func150, Try.ntmps150
  go_wp2_with fail
  go_loopw [9] (fun i wr => ∃ j : Nat, j ≤ n ∧ i = .int .i64 j ∧ Below w.heap.size w wr ∧ ∃ sz, sz ≤ j ∧ MapF 250 wr w.heap.size (mvF (xs.take j)) sz) (fun i _ => n - (intOf i).toNat)
  case atStart => exact ⟨0, Nat.zero_le _, rfl, by go_grown, 0, Nat.zero_le _, MapF.made _ w⟩
  case round =>
    obtain ⟨j, hj, rfl, g, sz, hsz, hM⟩ := hrel
    by_cases hlt : j < n
    · obtain ⟨x, hx⟩ := at_lt' (rs := xs) (i := j) (by rw [HN.out]; exact hlt)
      obtain ⟨b, off, rfl, X⟩ := HR.out.spot hx
      have X := X.below g X.lt
      have hok := HK.out x (List.mem_of_getElem? hx)
      have hjn : (j : Int) < (n : Int) := by omega
      have HT : Hid (mvF (xs.take (j + 1)) = mvS (mvF (xs.take j)) x) := by show _ = _; rw [take_snoc hx, mvF_snoc]
      clear hx
      obtain ⟨xp, xs', xq, xf, xcp, xcl, xct, xck, xcv, xcs⟩ := x
      obtain ⟨x0, x1, x2, x3, x4, x5, x6, x7, x8, x9⟩ := X
      obtain ⟨o1, o2, o3, o4, o5, o6, o7, o8, o9⟩ := hok
      dsimp only at x0 x1 x2 x3 x4 x5 x6 x7 x8 x9 o1 o2 o3 o4 o5 o6 o7 o8 o9
      subst o7
      have hgs := g.size
      have hKw : Hid (Kw xp xs') := kw_small o1 o2
      generalize mvF (xs.take j) = f at hM HT
      go_upto_region 5 with (fail)
      generalize hY : World.alloc _ _ = Y
      have gY : Below wr.heap.size wr Y := by rw [← hY]; go_grown
      have C : SpC Y wr.heap.size 0 ⟨xp, xs', ⟨0, xf, xcp, xcl, xct, xck, xcv, xcs⟩⟩ := by rw [← hY]; exact ⟨by simp [go_sem], by simp [go_sem], by simp [go_sem], by simp [go_sem], by simp [go_sem], by simp [go_sem], by simp [go_sem], by simp [go_sem], by simp [go_sem], by simp [go_sem]⟩
      have hM := hM.below gY
      have g := g.trans (gY.mono g.size)
      clear hY gY x0 x1 x2 x3 x4 x5 x6 x7 x8 x9
      obtain ⟨y0, y1, y2, y3, y4, y5, y6, y7, y8, y9⟩ := C
      dsimp only at y0 y1 y2 y3 y4 y5 y6 y7 y8 y9
      by_cases hf2 : xf = 2
      · subst hf2
        have HT2 : Hid (mvF (xs.take (j + 1)) = upd f xp xs' (some (.agg #[.int .i64 xct, .int .i64 xck, .int .i64 xcv, .string xcs]))) := by show _ = _; rw [HT.out]; rfl
        go_wp2_with (at_mapUpdate; refine wpList_store_mf _ rfl _ _ _ 209 rfl keyT150 82 Try.underlying209 rfl hM xp xs' rfl _ rfl hKw.out (by omega) ?_)
        intro w' hM' ht'
        have g2 : Below w.heap.size w w' := g.trans (turned_below ht' (Nat.le_refl _) hM.lt)
        rw [← HT2.out] at hM'
        clear ht' hM y0 y1 y2 y3 y4 y5 y6 y7 y8 y9
        go_wp2_with fail
        go_roundw
        case rel => exact ⟨j + 1, by omega, by go_num, g2, _, by have := nSz_le (f xp xs') sz; omega, hM'⟩
        case measure => simp [intOf]; omega
      · have HT2 : Hid (mvF (xs.take (j + 1)) = f) := by show _ = _; rw [HT.out]; unfold mvS; rw [if_neg hf2]
        have d2 : (xf == 2) = false := by simpa using hf2
        rw [← HT2.out] at hM
        go_wp2_with fail
        go_roundw
        case rel => exact ⟨j + 1, by omega, by go_num, g, sz, by omega, hM⟩
        case measure => simp [intOf]; omega
    · have e : j = n := by omega
      subst e
      rw [List.take_of_length_le (by rw [HN.out]; exact Nat.le_refl _)] at hM
      go_wp2_with fail
      go_ret
      exact ⟨rfl, g, sz, hsz, hM⟩

end Go.Proofs.Yteebbaleejbodaa

/-
  told, keyOf; an entry that is made and written.
-/
namespace Go.Proofs.Yteebbaleejbodaa
open Go.RowKit Go.Maps
set_option linter.unusedVariables false

set_option maxHeartbeats 400000 in
theorem told_any (p s q f cp cl t k v : Int) (st : ByteArray) (w : World) :
    Calls Try.prog 173 #[.agg #[.int .i64 p, .int .i64 s, .int .i64 q, .int .i64 f, .int .i64 cp, .int .i64 cl, .int .i64 t, .int .i64 k, .int .i64 v, .string st]] w fun e w' => e = .returned (.agg #[.int .i64 cp, .int .i64 cl]) ∧ Below w.heap.size w w' := by
  go_enter Try.func173, Try.ntmps173
  go_wp2
  go_returns
  exact ⟨rfl, by go_grown⟩

set_option maxHeartbeats 400000 in
theorem keyOf_any (t k v : Int) (st : ByteArray) (w : World) :
    Calls Try.prog 106 #[.agg #[.int .i64 t, .int .i64 k, .int .i64 v, .string st]] w fun e w' => e = .returned (.agg #[.int .i64 t, .int .i64 k]) ∧ Below w.heap.size w w' := by
  go_enter Try.func106, Try.ntmps106
  go_wp2
  go_returns
  exact ⟨rfl, by go_grown⟩

open Go.WideElems Go.ChangeMaps in
theorem entry_all {P : Program} {w : World} {t k e : TypeId} {R : Value → Option (DataW Value × List MemPlace)} {b : Nat} {es : Array MapEntry} {clock : Nat} (K : WideMaps.KeyLaw P k) (ht : P.underlying t = some (.map k e)) {z : Value} (hz : ∀ u : World, (zeroValue e).run P u = .ok z u) (hb : w.heap[b]? = some (.map es clock)) (F : Fit P k R es clock)
    {key : Value} {kl : Lit} (hkey : keyOf P k key = some kl) :
    ∃ (v0 : Value) (st : Nat) (es1 : Array MapEntry) (clock1 : Nat), (Instr.mapEntry t (.map (some b)) key).run P w = .ok (.tuple #[v0, goInt st]) (setBlock w b (.map es1 clock1)) ∧
      (Instr.lookup t (.map (some b)) key false).run P w = .ok v0 w ∧ (Instr.mapUpdate t (.map (some b)) key v0).run P w = .ok () (setBlock w b (.map es1 clock1)) ∧
      ∀ (w2 : World) (val : Value), w2.heap[b]? = some (.map es1 clock1) → ∃ es' clock', (Instr.entryStore t (.map (some b)) (goInt st) val).run P w2 = .ok () (setBlock w2 b (.map es' clock')) ∧
        (Instr.mapUpdate t (.map (some b)) key val).run P w = .ok () (setBlock w b (.map es' clock')) := by
  obtain ⟨v0, st, es1, clock1, h1, h2, h3⟩ := entry_then_store K ht hz hb F hkey
  refine ⟨v0, st, es1, clock1, h1, ?_, ?_, h3⟩
  · rcases K.find w hkey es.toList F.keys with ⟨g1, g2⟩ | ⟨j, e0, g1, g2, g3⟩
    · simp [Instr.mapEntry, run_underlying ht, MapKept.run_getObj_map hb, K.check w false hkey, g1, hz, MapKept.run_setObj_map _ hb, Result.andThen, setBlock] at h1
      obtain ⟨⟨rfl, _⟩, _⟩ := h1
      simp [Instr.lookup, run_underlying ht, MapKept.run_getObj_map hb, K.check w _ hkey, g1, hz, Result.andThen]
    · have hj : es[j]? = some e0 := by simpa using g2
      simp [Instr.mapEntry, run_underlying ht, MapKept.run_getObj_map hb, K.check w false hkey, g1, hj, g3, K.stays w hkey, MapKept.run_setObj_map _ hb, Result.andThen, setBlock] at h1
      obtain ⟨⟨rfl, _⟩, _⟩ := h1
      simp [Instr.lookup, run_underlying ht, MapKept.run_getObj_map hb, K.check w _ hkey, g1, Result.andThen]
  · rcases K.find w hkey es.toList F.keys with ⟨g1, g2⟩ | ⟨j, e0, g1, g2, g3⟩
    · simp [Instr.mapEntry, run_underlying ht, MapKept.run_getObj_map hb, K.check w false hkey, g1, hz, MapKept.run_setObj_map _ hb, Result.andThen, setBlock] at h1
      obtain ⟨⟨rfl, _⟩, h1⟩ := h1
      simp [Instr.mapUpdate, run_underlying ht, MapKept.run_getObj_map hb, K.check w false hkey, g1, MapKept.run_setObj_map _ hb, Result.andThen, setBlock]
      exact h1
    · have hj : es[j]? = some e0 := by simpa using g2
      have hsame : es.modify j (fun e => { e with key := key }) = es := by
        apply Array.ext'
        rw [Array.toList_modify, modify_eq_set _ _ _ _ g2]
        have : ({ e0 with key := key } : MapEntry) = e0 := by rw [← g3]
        rw [this]
        exact set_self _ _ _ g2
      have hsame2 : es.modify j (fun e => { e with key := key, val := e0.val }) = es := by
        apply Array.ext'
        rw [Array.toList_modify, modify_eq_set _ _ _ _ g2]
        have : ({ e0 with key := key, val := e0.val } : MapEntry) = e0 := by rw [← g3]
        rw [this]
        exact set_self _ _ _ g2
      simp [Instr.mapEntry, run_underlying ht, MapKept.run_getObj_map hb, K.check w false hkey, g1, hj, g3, K.stays w hkey, hsame, MapKept.run_setObj_map _ hb, Result.andThen, setBlock] at h1
      obtain ⟨⟨rfl, _⟩, h1⟩ := h1
      simp [Instr.mapUpdate, run_underlying ht, MapKept.run_getObj_map hb, K.check w false hkey, g1, hj, g3, K.stays w hkey, hsame2, MapKept.run_setObj_map _ hb, Result.andThen, setBlock]
      exact h1

theorem MapF.entry2 {K : TypeId} {w : World} {b sz : Nat} {f : Int → Int → Option Value} (h : MapF K w b f sz) (T : KeyT K) (L : WideMaps.KeyLaw Try.prog K) {t e : TypeId} (ht : Try.prog.underlying t = some (.map K e)) {z : Value} (hz : ∀ u : World, (zeroValue e).run Try.prog u = .ok z u) {x y : Int} (hk : Kw x y) (hs : sz < 1000000) :
    ∃ v0 st w1, (Instr.mapEntry t (.map (some b)) (kv x y)).run Try.prog w = .ok (.tuple #[v0, goInt st]) w1 ∧ w.mapTurned w1 b ∧ (Instr.lookup t (.map (some b)) (kv x y) false).run Try.prog w1 = .ok ((f x y).getD z) w1 ∧
      ∀ v, ∃ w2, (Instr.entryStore t (.map (some b)) (goInt st) v).run Try.prog w1 = .ok () w2 ∧ MapF K w2 b (upd f x y (some v)) (nSz (f x y) sz) ∧ w1.mapTurned w2 b := by
  have h' := h
  obtain ⟨D, ⟨es, clock, hb, F, hes, rfl⟩, _⟩ := h'
  obtain ⟨v0, st, es1, clock1, h1, h2, h2', h3⟩ := entry_all L ht hz hb F (T.rd x y hk)
  have hv0 : v0 = (f x y).getD z := by
    have := h.look T ht (hz w) hk
    rw [h2] at this
    simpa using this
  have hb1 : (ChangeMaps.setBlock w b (.map es1 clock1)).heap[b]? = some (.map es1 clock1) := ChangeMaps.heap_setBlock_same hb _
  refine ⟨v0, st, _, h1, ⟨es, clock, es1, clock1, hb, rfl⟩, ?_, fun v => ?_⟩
  · obtain ⟨w', h6, h7, h8⟩ := h.store T ht hk v0 hs
    rw [h2'] at h6
    simp at h6
    rw [h6, h7.look T ht (hz w') hk]
    simp [upd, hv0]
  obtain ⟨es', clock', h4, h5⟩ := h3 (ChangeMaps.setBlock w b (.map es1 clock1)) v hb1
  obtain ⟨w', h6, h7, h8⟩ := h.store T ht hk v hs
  rw [h5] at h6
  simp at h6
  refine ⟨_, h4, ?_, ⟨es1, clock1, es', clock', hb1, rfl⟩⟩
  have : ChangeMaps.setBlock (ChangeMaps.setBlock w b (.map es1 clock1)) b (.map es' clock') = w' := by
    rw [← h6]; simp [ChangeMaps.setBlock]
  rw [this]; exact h7

end Go.Proofs.Yteebbaleejbodaa
