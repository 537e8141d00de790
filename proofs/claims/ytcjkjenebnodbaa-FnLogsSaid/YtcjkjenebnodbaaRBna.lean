/-
  The model's DrawAppendLog.
-/
import Derived.Test.YtcjkjenebnodbaaRRdq
import Derived.Test.YtcjkjenebnodbaaRLgp
import Derived.Test.YtcjkjenebnodbaaRLft

namespace Go.Proofs.Ytcjkjenebnodbaa
open Go.RowKit
set_option linter.unusedVariables false

set_option maxRecDepth 20000 in
set_option maxHeartbeats 4000000 in
theorem drawAppendLog_any (a : Option Addr) (n c : Nat) (zs : List Int) (w : World) (rd : Dr.Reads w a zs) (hn : zs.length = n) (hm : n ≤ 1048576) (hz : ∀ z ∈ zs, 0 ≤ z ∧ z ≤ 255) :
    Calls Try.prog 20 #[.slice a n c] w fun e w' => DaPost w e w' := by
  go_enter Try.func20, Try.ntmps20
  go_upto_region 1 with (fail)
  generalize hY : World.alloc (World.alloc _ _) _ = Y
  have hO : Lc Y w.heap.size (.slice none 0 0) (.slice none 0 0) := by rw [← hY]; exact ⟨by simp [go_sem], by simp [go_sem], by simp [go_sem], by simp [go_sem]⟩
  have hQ : Rw Y (w.heap.size + 1) 0 0 0 (.slice none 0 0) := by rw [← hY]; exact ⟨by simp [go_sem], by simp [go_sem], by simp [go_sem], by simp [go_sem], by simp [go_sem], by simp [go_sem], by simp [go_sem], by simp [go_sem]⟩
  have g0 : Below w.heap.size w Y := by rw [← hY]; go_grown
  have rd := rd.below g0 (Nat.le_refl _)
  clear hY
  go_wp2_with fail
  refine (Dr.l1Source_any a n c zs _ rd hn hm hz).mono ?_
  rintro e w1 ⟨rfl, g1, hlt, hS⟩
  have hOl := hQ.lt
  have hO := hO.up g1
  have hQ := hQ.up g1
  have g0 := g0.trans (g1.mono (by have := g0.size; omega))
  generalize Y.heap.size = b at hS hlt hOl ⊢
  clear g1 rd hn hm hz
  go_wp2_with fail
  refine (l5Bent_any b a n c zs 0 _ hS (by omega)).mono ?_
  rintro e w2 ⟨⟨x, y, xs, ys, nn, cc, m, d, rfl, hB, hT⟩, ⟨j, hj, hS⟩⟩
  have hO := hO.turned hT (.inl (by omega))
  have hQ := hQ.turned hT (.inl (by omega))
  have hsz2 := hT.size
  have g0 : Below w.heap.size w w2 := g0.trans (hT.toBelow (by omega) (by omega))
  clear hT
  go_wp2_with fail
  refine (l4Bent_any b a n c zs _ _ hS (by omega)).mono ?_
  rintro e w3 ⟨⟨k, tx, pg, aa, l, ec, P, A, C, Z, rfl, hOk, hRL, hT⟩, _⟩
  have hO := hO.turned hT (.inl (by omega))
  have hQ := hQ.turned hT (.inl (by omega))
  have hB := hB.turned (r := b) ⟨hT.os, hT.tape, hT.output, hT.size, fun k hk hn => hT.block k hk (by omega)⟩
  have g0 : Below w.heap.size w w3 := g0.trans (hT.toBelow (by omega) (by omega))
  have hRL := hRL.mono (l' := w.heap.size + 2) (by omega)
  have hB := hB.low (l' := w.heap.size + 2) (by omega)
  clear hT hS
  have HF : Hid (∀ V', Dr.Turned w.heap.size (w.heap.size + 2) w3 V' → DaPost w (.returned (.tuple #[.agg #[.slice x nn cc, .slice y m d], .agg #[.int .i64 k, .int .i64 tx, .int .i64 pg, .slice aa l ec]])) V') := fun V' T =>
    ⟨x, y, xs, ys, nn, cc, m, d, k, tx, pg, aa, l, ec, P, A, C, Z, rfl, (hB.turned (r := w.heap.size) T).low (by omega), hOk, (hRL.turned (x := w.heap.size) T).reads, g0.trans (T.toBelow (g0.size) (Nat.le_refl _))⟩
  obtain ⟨O0, O1, F0, F1⟩ := hO
  obtain ⟨Q0, Q1, Q2, Q3, E0, E1, E2, E3⟩ := hQ
  clear hB hRL g0
  go_wp2_with fail
  refine bodyPost_ret (v := .tuple #[.agg #[.slice x nn cc, .slice y m d], .agg #[.int .i64 k, .int .i64 tx, .int .i64 pg, .slice aa l ec]]) (by simp [results, Try.results20, go_sem, *]) rfl ?_
  exact HF.out _ (((((((Dr.Turned.refl _ _ w3).setCell (by simp) (by simp) _).setCell (by simp) (by simp) _).setCell (by simp) (by simp) _).setCell (by simp) (by simp) _).setCell (by simp) (by simp) _).setCell (by simp) (by simp) _)

end Go.Proofs.Ytcjkjenebnodbaa

/-
  The program's ReadLog: what cannot be read ends the records.
-/
namespace Go.Proofs.Ytcjkjenebnodbaa
open Go.RowKit
set_option linter.unusedVariables false

def rlQ (zs : List Int) : Int := if 16000 < zs.length then 2 else 0
def rlU (zs : List Int) : Nat := if 16000 < zs.length then 0 else logU zs
def rlN (zs : List Int) : Nat := if 16000 < zs.length then 0 else lgN zs
/-- What ReadLog answers. -/
def RlPost (w : World) (zs : List Int) (e : Ending) (w' : World) : Prop := ∃ a c D, e = .returned (.agg #[.int .i64 (rlQ zs), .int .i64 (rlU zs), .slice a (rlN zs) c]) ∧ Below w.heap.size w w' ∧ OwnRS w.heap.size w'.heap.size w' a (rlN zs) (lgR zs) D ∧ rlN zs ≤ c ∧ c ≤ 9223372036854775807

/-- The answer's cells, the records' and the number's. -/
structure RlS (w : World) (k : Int) (v : Value) (V : World) : Prop where
  a0 : V.cell? ⟨w.heap.size, 0, none⟩ = some (.int .i64 0)
  a1 : V.cell? ⟨w.heap.size, 1, none⟩ = some (.int .i64 0)
  a2 : V.cell? ⟨w.heap.size, 2, none⟩ = some (.slice none 0 0)
  f0 : V.frozen? ⟨w.heap.size, 0, none⟩ = false
  f1 : V.frozen? ⟨w.heap.size, 1, none⟩ = false
  f2 : V.frozen? ⟨w.heap.size, 2, none⟩ = false
  v0 : V.cell? ⟨w.heap.size + 1, 0, none⟩ = some v
  vf : V.frozen? ⟨w.heap.size + 1, 0, none⟩ = false
  u0 : V.cell? ⟨w.heap.size + 2, 0, none⟩ = some (.int .i64 k)
  uf : V.frozen? ⟨w.heap.size + 2, 0, none⟩ = false
  g : Below w.heap.size w V
section
variable {w V W : World} {k k' : Int} {v v' : Value}
theorem RlS.s (h : RlS w k v V) : w.heap.size + 3 ≤ V.heap.size := World.block_lt_of_cell? V _ h.u0
theorem RlS.low (h : RlS w k v V) (hb : Below (w.heap.size + 3) V W) : RlS w k v W :=
  ⟨(hb.cell (by simp only; omega)).trans h.a0, (hb.cell (by simp only; omega)).trans h.a1, (hb.cell (by simp only; omega)).trans h.a2, (hb.frozen (by simp only; omega)).trans h.f0, (hb.frozen (by simp only; omega)).trans h.f1, (hb.frozen (by simp only; omega)).trans h.f2, (hb.cell (by simp only; omega)).trans h.v0, (hb.frozen (by simp only; omega)).trans h.vf, (hb.cell (by simp only; omega)).trans h.u0, (hb.frozen (by simp only; omega)).trans h.uf, h.g.trans (hb.mono (by omega))⟩
theorem RlS.up (h : RlS w k v V) (hb : Below V.heap.size V W) : RlS w k v W := h.low (hb.mono h.s)
theorem RlS.putV (h : RlS w k v V) (v' : Value) : RlS w k v' (V.setCell ⟨w.heap.size + 1, 0, none⟩ v') := by
  have o : ∀ (p : Addr) (x : Value), p ≠ ⟨w.heap.size + 1, 0, none⟩ → V.cell? p = some x → (V.setCell ⟨w.heap.size + 1, 0, none⟩ v').cell? p = some x := fun p x hp hx => by
    rw [World.cell?_setCell_other _ _ _ _ (fun e => hp e.symm)]; exact hx
  exact ⟨o _ _ (by simp) h.a0, o _ _ (by simp) h.a1, o _ _ (by simp) h.a2, by rw [World.frozen?_setCell]; exact h.f0, by rw [World.frozen?_setCell]; exact h.f1, by rw [World.frozen?_setCell]; exact h.f2, World.cell?_setCell_same _ _ _ h.v0, by rw [World.frozen?_setCell]; exact h.vf, o _ _ (by simp) h.u0, by rw [World.frozen?_setCell]; exact h.uf, h.g.setCell (by simp) _⟩
theorem RlS.putK (h : RlS w k v V) (k' : Int) : RlS w k' v (V.setCell ⟨w.heap.size + 2, 0, none⟩ (.int .i64 k')) := by
  have o : ∀ (p : Addr) (x : Value), p ≠ ⟨w.heap.size + 2, 0, none⟩ → V.cell? p = some x → (V.setCell ⟨w.heap.size + 2, 0, none⟩ (.int .i64 k')).cell? p = some x := fun p x hp hx => by
    rw [World.cell?_setCell_other _ _ _ _ (fun e => hp e.symm)]; exact hx
  exact ⟨o _ _ (by simp) h.a0, o _ _ (by simp) h.a1, o _ _ (by simp) h.a2, by rw [World.frozen?_setCell]; exact h.f0, by rw [World.frozen?_setCell]; exact h.f1, by rw [World.frozen?_setCell]; exact h.f2, o _ _ (by simp) h.v0, by rw [World.frozen?_setCell]; exact h.vf, World.cell?_setCell_same _ _ _ h.u0, by rw [World.frozen?_setCell]; exact h.uf, h.g.setCell (by simp) _⟩
end

theorem Rlt.setLow {n₀ : Nat} {W : World} {v : Value} {k : Nat} {R : Nat → Rc} {D : Nat → Ad} (h : Rlt n₀ W v k R D) {p : Addr} (hp : p.block < n₀) (x : Value) : Rlt n₀ (W.setCell p x) v k R D :=
  ⟨ownsRow_setLow h.row hp x, fun i hi => (h.rn i hi).turned (x := p.block) (y := p.block + 1) ((Turned.refl _ _ W).setCell (Nat.le_refl _) (Nat.lt_succ_self _) x) (.inr (Nat.le_trans hp (h.fr i hi).1)), fun i hi => by rw [World.size_setCell]; exact h.fr i hi, h.ne⟩
theorem Rlt.mono {n₀ n₁ : Nat} {W : World} {v : Value} {k : Nat} {R : Nat → Rc} {D : Nat → Ad} (h : Rlt n₀ W v k R D) (hn : n₁ ≤ n₀) : Rlt n₁ W v k R D :=
  ⟨ownsRow_mono h.row hn, h.rn, fun i hi => by obtain ⟨h1, h2⟩ := h.fr i hi; exact ⟨Nat.le_trans hn h1, h2⟩, h.ne⟩
theorem Rlt.cap {n₀ : Nat} {W : World} {a : Option Addr} {c k : Nat} {R : Nat → Rc} {D : Nat → Ad} (h : Rlt n₀ W (.slice a k c) k R D) : k ≤ c ∧ c ≤ 9223372036854775807 := by
  have hml : maxLen = 9223372036854775807 := by decide
  rcases h.row.2 with ⟨e, h0⟩ | ⟨g, cap, cur, e, _, _, h1, h2, _⟩
  · simp only [Value.slice.injEq] at e; omega
  · simp only [Value.slice.injEq, true_and] at e; omega
theorem Rlt.ownAt {n₀ : Nat} {W : World} {a : Option Addr} {c k : Nat} {R : Nat → Rc} {D : Nat → Ad} (h : Rlt n₀ W (.slice a k c) k R D) : OwnRS n₀ W.heap.size W a k R D := by
  obtain ⟨a', c', e, hr⟩ := h.own
  simp only [Value.slice.injEq, true_and] at e
  obtain ⟨rfl, rfl⟩ := e
  exact hr

/-- The number that stands in block b. -/
def numAt (w : World) (b : Nat) : Nat := match w.cell? ⟨b, 0, none⟩ with
  | some (.int _ k) => k.toNat
  | _ => 0
theorem numAt_of {w : World} {b : Nat} {k : Nat} (h : w.cell? ⟨b, 0, none⟩ = some (.int .i64 (k : Int))) : numAt w b = k := by unfold numAt; rw [h]; simp

set_option maxHeartbeats 400000 in
theorem catchR_panicking (b0 b1 b2 : Nat) (k : Int) (a : Option Addr) (n c : Nat) (u : TypeId) (pv : Value) (older : List PanicEntry) (w : World) (hk : w.cell? ⟨b2, 0, none⟩ = some (.int .i64 k)) (hv : w.cell? ⟨b1, 0, none⟩ = some (.slice a n c))
    (h0 : w.cell? ⟨b0, 0, none⟩ = some (.int .i64 0)) (h1 : w.cell? ⟨b0, 1, none⟩ = some (.int .i64 0)) (h2 : w.cell? ⟨b0, 2, none⟩ = some (.slice none 0 0)) (f0 : w.frozen? ⟨b0, 0, none⟩ = false) (f1 : w.frozen? ⟨b0, 1, none⟩ = false) (f2 : w.frozen? ⟨b0, 2, none⟩ = false) :
    CallsD Try.prog 73 #[.pointer (some ⟨b2, 0, none⟩), .pointer (some ⟨b1, 0, none⟩), .pointer (some ⟨b0, 0, none⟩)] (.panicking ({ v := .iface u pv, recovered := false } :: older)) w fun e u' w' =>
      e = .returned (.tuple #[]) ∧ u' = .panicking ({ v := .iface u pv, recovered := true } :: older) ∧ w' = ((w.setCell ⟨b0, 0, none⟩ (.int .i64 0)).setCell ⟨b0, 1, none⟩ (.int .i64 k)).setCell ⟨b0, 2, none⟩ (.slice a n c) := by
  refine callsD_of_wpS Try.func73 rfl fun c₀ cs hu => ?_
  apply wpS_seq
  apply wpS_region
  simp [wpOpsS, go_sem, recoverD, hu, Try.ntmps73, Exit.thenS]
  refine wpS_cond (t := true) (by simp [Act.eval, Array.replicate]) ?_
  simp only [if_true]
  apply wpS_region
  simp [wpOpsS, go_sem, hk, hv, h0, h1, h2, f0, f1, f2, bodyPostS, results, Try.results73]

theorem catchR_idle (p q r : Addr) (w : World) :
    CallsD Try.prog 73 #[.pointer (some p), .pointer (some q), .pointer (some r)] .returning w fun e u' w' => e = .returned (.tuple #[]) ∧ u' = .returning ∧ w' = w := by
  refine callsD_of_wpS Try.func73 rfl fun c₀ cs hu => ?_
  apply wpS_seq
  apply wpS_region
  simp [wpOpsS, go_sem, recoverD, hu, Try.ntmps73, Exit.thenS]
  refine wpS_cond (t := false) (by simp [Act.eval, Array.replicate]) ?_
  simp only [Bool.false_eq_true, if_false]
  refine wpS_of_wp (wp_skip ?_)
  cases c₀
  simp_all [bodyPostS, results, Try.results73]

end Go.Proofs.Ytcjkjenebnodbaa

/-
  The program's ReadLog, walked.
-/
namespace Go.Proofs.Ytcjkjenebnodbaa
open Go.RowKit
set_option linter.unusedVariables false

set_option maxRecDepth 10000 in
set_option maxHeartbeats 2000000 in
theorem implReadLog_any (zs : List Int) (a : Option Addr) (cap : Nat) (w : World) (hm : zs.length ≤ 1048576) (hcap : zs.length ≤ cap) (hcm : cap ≤ 9223372036854775807) (hf : Reads w a zs) (hz : ∀ z ∈ zs, 0 ≤ z ∧ z ≤ 255) :
    Calls Try.prog 19 #[.slice a zs.length cap] w fun e w' => RlPost w zs e w' := by
  have hmf : ∀ (fn : Fn) (first cap : Array Value) (w : World), (Instr.makeFunc fn first cap).run Try.prog w = .ok (.func fn first cap) w := fun _ _ _ _ => rfl
  obtain ⟨i6, hi6, hz60, hz61, hz62⟩ := info36
  have HZ : Hid (∀ z ∈ zs, 0 ≤ z ∧ z ≤ 255) := hz
  have HF : Hid (Reads w a zs) := hf
  clear hz hf
  by_cases hbig : 16000 < zs.length
  · have e1 : rlQ zs = 2 := by unfold rlQ; rw [if_pos hbig]
    have e2 : rlU zs = 0 := by unfold rlU; rw [if_pos hbig]
    have e3 : rlN zs = 0 := by unfold rlN; rw [if_pos hbig]
    have HE : Hid (rlQ zs = 2 ∧ rlU zs = 0 ∧ rlN zs = 0) := ⟨e1, e2, e3⟩
    have hb : (16000 : Int) < (zs.length : Int) := by omega
    clear e1 e2 e3
    go_enter_defers Try.func19, Try.ntmps19
    go_wp2_with fail
    refine ⟨.agg #[.int .i64 2, .int .i64 0, .slice none 0 0], by simp [results, Try.results19, go_sem], ?_⟩
    unfold RlPost
    rw [HE.out.1, HE.out.2.1, HE.out.2.2]
    exact ⟨none, 0, fun _ => ⟨none, 0, fun _ => none, fun _ => 0, fun _ => 0, 0, 0⟩, rfl, by go_grown, .inl rfl, Nat.le_refl _, by omega⟩
  · have HE : Hid (rlQ zs = 0 ∧ rlU zs = logU zs ∧ rlN zs = lgN zs) := ⟨by unfold rlQ; rw [if_neg hbig], by unfold rlU; rw [if_neg hbig], by unfold rlN; rw [if_neg hbig]⟩
    have hb : ¬ ((16000 : Int) < (zs.length : Int)) := by omega
    go_enter_defers Try.func19, Try.ntmps19
    go_upto_region 6 with (fail)
    generalize hY : World.alloc _ _ = Y
    have hS0 : RlS w 0 (.slice none 0 0) Y := by rw [← hY]; exact ⟨by simp [go_sem], by simp [go_sem], by simp [go_sem], by simp [go_sem], by simp [go_sem], by simp [go_sem], by simp [go_sem], by simp [go_sem], by simp [go_sem], by simp [go_sem], by go_grown⟩
    clear hY
    have hR0 : Rlt (w.heap.size + 3) Y (.slice none 0 0) 0 (lgR zs) (fun _ => ⟨none, 0, fun _ => none, fun _ => 0, fun _ => 0, 0, 0⟩) := Rlt.nil _ _ _ _
    go_loopw [11] (fun _ wr => ∃ (j : Nat) (v : Value) (D : Nat → Ad), j ≤ lgN zs ∧ RlS w (lp zs j) v wr ∧ Rlt (w.heap.size + 3) wr v j (lgR zs) D) (fun _ wr => zs.length - numAt wr (w.heap.size + 2))
    case atStart => exact ⟨0, _, _, Nat.zero_le _, hS0, hR0⟩
    case round =>
      obtain ⟨j, v, D, hj, hS, hR⟩ := hrel
      clear hS0 hR0
      obtain ⟨av, cv, hv⟩ := hR.form
      subst hv
      have hcv := hR.cap
      have hpl := (lp_le zs j hj).2
      have hfl := from_len zs j
      have hs3 := hS.s
      by_cases h0 : lp zs j = zs.length
      · have HF2 : Hid (j = lgN zs ∧ logU zs = zs.length) := lg_full hj h0
        rw [h0] at hS
        have hg := hS.g
        obtain ⟨a0, a1, a2, f0, f1, f2, v0, vf, u0, uf, _⟩ := hS
        have HO : Hid (OwnRS (w.heap.size + 3) wr.heap.size wr av j (lgR zs) D) := hR.ownAt
        clear hfl h0 hpl hR
        go_wp2_with fail
        refine leaves_cons (f := 73) (args := #[.pointer (some ⟨w.heap.size + 2, 0, none⟩), .pointer (some ⟨w.heap.size + 1, 0, none⟩), .pointer (some ⟨w.heap.size, 0, none⟩)]) (by simp) (by simp [go_sem]) ?_
        refine (catchR_idle _ _ _ _).mono ?_
        rintro e u' w'' ⟨rfl, rfl, rfl⟩
        refine ⟨.agg #[.int .i64 0, .int .i64 zs.length, .slice av j cv], by simp [results, Try.results19, go_sem, *], ?_⟩
        unfold RlPost
        rw [HE.out.1, HE.out.2.1, HE.out.2.2, HF2.out.2, ← HF2.out.1]
        refine ⟨av, cv, D, rfl, by go_grown, ?_, hcv.1, hcv.2⟩
        have T : Turned w.heap.size (w.heap.size + 1) wr _ := (((Turned.refl _ _ wr).setCell (p := ⟨w.heap.size, 0, none⟩) (by simp) (by simp) (.int .i64 0)).setCell (p := ⟨w.heap.size, 1, none⟩) (by simp) (by simp) (.int .i64 zs.length)).setCell (p := ⟨w.heap.size, 2, none⟩) (by simp) (by simp) (.slice av j cv)
        exact (HO.out.turned T (.inr (by omega))).mono (by omega) (by simp)
      · have hlt : lp zs j < zs.length := by omega
        obtain ⟨b, off, ha, hc⟩ : ∃ b off, a = some ⟨b, off, none⟩ ∧ ∀ i, i < zs.length → w.cell? ⟨b, off + i, none⟩ = some (.int .u8 (zs.getD i 0)) := by
          rcases HF.out with h | ⟨b, off, h, hc⟩
          · rw [h] at hlt; simp at hlt
          · exact ⟨b, off, h, hc⟩
        subst ha
        have hRd : Reads wr (some ⟨b, off + lp zs j, none⟩) (from' zs j) := Reads.below (w := w) (.inr ⟨b, off + lp zs j, rfl, fun i hi => by
          have h1 := hc (lp zs j + i) (by omega)
          rw [← Nat.add_assoc] at h1
          rw [h1]
          unfold from'
          simp only [List.getD, List.getElem?_drop]⟩) hS.g (Nat.le_refl _)
        have hl1 : ((lp zs j : Nat) : Int) < (zs.length : Int) := by omega
        have hne : ¬ cap = lp zs j := by omega
        have hlc : ((lp zs j : Nat) : Int) ≤ (zs.length : Int) := by omega
        by_cases hok : j < lgN zs
        · obtain ⟨hu1, hu7, hul⟩ := uR_from zs j hok
          have hq := (rr_yes (lg_ok zs j hok)).1
          have HC : Hid (Calls Try.prog 74 #[.slice (some ⟨b, off + lp zs j, none⟩) (zs.length - lp zs j) (cap - lp zs j)] wr fun e w' => RRPost wr (from' zs j) e w') := by
            show Calls _ _ _ _ _
            rw [← hfl]
            exact nextRecord_ok (from' zs j) _ _ wr (by omega) (by omega) (by omega) hRd (from_bd HZ.out j) (lg_ok zs j hok)
          have HPo : Hid (∀ e w', RRPost wr (from' zs j) e w' → ∃ a c A C F, e = .returned (.agg #[.int .i64 0, .int .i64 (uR (from' zs j)), .int .i64 (lgR zs j).k, .int .i64 (lgR zs j).t, .int .i64 (lgR zs j).g, .slice a (lgR zs j).n c]) ∧ Below wr.heap.size wr w' ∧ OwnS wr.heap.size w'.heap.size w' a (lgR zs j).n (lgR zs j).P A C (lgR zs j).Z F) := fun e w' h => by unfold RRPost at h; rw [hq] at h; exact h
          have HU : Hid (lp zs (j + 1) = lp zs j + uR (from' zs j)) := hu1
          have HPj : Hid (lp zs j = lp zs j) := rfl
          clear hq hu1 hc hRd
          generalize uR (from' zs j) = u at HPo HU hu7 hul
          generalize hp0 : lp zs j = p0 at HC HU hl1 hne hlc hfl hpl hlt hS ⊢
          clear hp0 HPj
          obtain ⟨a0, a1, a2, f0, f1, f2, v0, vf, u0, uf, hg⟩ := hS
          have hS : RlS w p0 (.slice av j cv) wr := ⟨a0, a1, a2, f0, f1, f2, v0, vf, u0, uf, hg⟩
          have HM : Hid (numAt wr (w.heap.size + 2) = p0) := numAt_of u0
          go_wp2_with fail
          refine HC.out.mono ?_
          intro e w2 hp
          obtain ⟨a2', d2, A2, C2, F2, rfl, g2, y2⟩ := HPo.out _ _ hp
          clear hp HC HPo a0 a1 a2 f0 f1 f2 v0 vf u0 uf hg
          have hR2 := hR.below g2
          have HRS : Hid (∀ g', (Value.slice av j cv).ownBlock = some g' → g' < wr.heap.size) := fun g' e => (World.ownsRow.lt hR.row g' e).2
          have hfr : ∀ i, i < j → (D i).hi ≤ wr.heap.size := fun i hi => (hR.fr i hi).2.2.1
          have hS := hS.up g2
          have hs2 := g2.size
          clear hR g2
          go_upto_region 8 with (fail)
          generalize hY2 : World.alloc w2 _ = Y2
          have gY : Below w2.heap.size w2 Y2 := by rw [← hY2]; go_grown
          have r2 : R6 Y2 w2.heap.size 0 u (lgR zs j).k (lgR zs j).t (lgR zs j).g a2' (lgR zs j).n d2 := by rw [← hY2]; exact ⟨by simp [go_sem], by simp [go_sem], by simp [go_sem], by simp [go_sem], by simp [go_sem], by simp [go_sem]⟩
          have hR2 := hR2.below gY
          have hOn : RunsAt Y2 (lgR zs j) ⟨a2', d2, A2, C2, F2, wr.heap.size, w2.heap.size⟩ := OwnS.below y2 gY
          have hS := hS.up gY
          have hs3' := gY.size
          have hb2 : w2.heap.size < Y2.heap.size := World.block_lt_of_cell? Y2 _ r2.c0
          clear hY2 gY y2
          generalize w2.heap.size = b2 at r2 hOn hs2 hs3' hb2 ⊢
          obtain ⟨p1, p2, p3, p4, p5, p6⟩ := r2
          have gb : Below Y2.heap.size Y2 (Y2.alloc (.cells #[.int .i64 (lgR zs j).k, .int .i64 (lgR zs j).t, .int .i64 (lgR zs j).g, .slice a2' (lgR zs j).n d2] 36)) := by go_grown
          have hR8 := hR2.below gb
          have hO8 := hOn.below gb
          have hS8 := hS.up gb
          have p28 := (gb.cell (World.block_lt_of_cell? Y2 _ p2)).trans p2
          have hjs : j ≤ 1048576 := by have := lgN_le zs; omega
          have v0 := hS.v0
          go_wp2_with (at_builtin; refine wpList_append_own_at _ rfl _ _ 24 rfl (w.heap.size + 3) 36 i6 (.agg #[.int .i64 0, .int .i64 0, .int .i64 0, .slice none 0 0]) 4 48 Try.underlying24 hi6 hz60 hz61 hz62 rfl (by decide) _ _ _ rfl hR8.row ⟨Y2.heap.size, 0, none⟩ 1 1 [.int .i64 (lgR zs j).k, .int .i64 (lgR zs j).t, .int .i64 (lgR zs j).g, .slice a2' (lgR zs j).n d2] rfl rfl ?n1 ?n2 ?n3 ?n4 ?n5 ?_)
          case n1 =>
            intro i u hu
            match i, hu with
            | 0, hu => simp at hu; subst hu; simp [go_sem, Addr.add]
            | 1, hu => simp at hu; subst hu; simp [go_sem, Addr.add]
            | 2, hu => simp at hu; subst hu; simp [go_sem, Addr.add]
            | 3, hu => simp at hu; subst hu; simp [go_sem, Addr.add]
          case n2 =>
            intro u hu
            simp at hu
            rcases hu with rfl | rfl | rfl | rfl <;> rfl
          case n3 => unfold maxLen; omega
          case n4 => omega
          case n5 => simp; omega
          intro v' w9 hown' hgrow _ hat
          have hR9 := hR8.add (v' := v') hO8 hfr (by simp only; omega) (by simp only; omega) (by simp; omega) HRS.out hown' hgrow (hat.imp id (fun h => h.trans (by simp)))
          have hS9 : RlS w p0 (.slice av j cv) w9 := hS8.low (Below.grown (Below.refl _ _) hgrow (by simp; omega) (fun q e => (World.ownsRow.lt hR8.row q e).1))
          have p29 := (World.cell?_of_block (a := ⟨b2, 1, none⟩) (hgrow.block b2 (by simp; omega) (fun e => by have := HRS.out b2 e.symm; omega))).trans p28
          clear hown' hgrow hat hR8 hO8 p28 gb hR2 hOn p1 p2 p3 p4 p5 p6 hS hS8 v0
          obtain ⟨av', cv', hv'⟩ := hR9.form
          subst hv'
          have hS10 := hS9.putV (.slice av' (j + 1) cv')
          have hR10 := hR9.setLow (p := ⟨w.heap.size + 1, 0, none⟩) (by simp only; omega) (.slice av' (j + 1) cv')
          obtain ⟨a0, a1, a2, f0, f1, f2, v0, vf, u0, uf, hg⟩ := hS9
          have hS11 := hS10.putK ((p0 : Int) + (u : Int))
          have hR11 := hR10.setLow (p := ⟨w.heap.size + 2, 0, none⟩) (by simp only; omega) (.int .i64 ((p0 : Int) + (u : Int)))
          have hb2n : ¬ b2 = w.heap.size + 1 := by omega
          go_wp2_with fail
          go_roundw
          case rel => exact ⟨j + 1, .slice av' (j + 1) cv', _, by omega, by rw [HU.out]; exact hS11, hR11⟩
          case measure =>
            have e1 : numAt ((w9.setCell ⟨w.heap.size + 1, 0, none⟩ (.slice av' (j + 1) cv')).setCell ⟨w.heap.size + 2, 0, none⟩ (.int .i64 ((p0 : Int) + (u : Int)))) (w.heap.size + 2) = p0 + u := numAt_of (by rw [hS11.u0]; simp)
            rw [e1, HM.out]
            omega
        · have HE2 : Hid (j = lgN zs) := by show _ = _; omega
          have HC : Hid (Calls Try.prog 74 #[.slice (some ⟨b, off + lp zs j, none⟩) (zs.length - lp zs j) (cap - lp zs j)] wr fun e w' => Panicked e ∧ Below wr.heap.size wr w') := by
            show Calls _ _ _ _ _
            rw [← hfl]
            exact nextRecord_bad (from' zs j) _ _ wr (by omega) (by omega) (by omega) hRd (from_bd HZ.out j) (by rw [HE2.out]; exact lg_no zs)
          have HU : Hid (logU zs = lp zs j) := by show _ = _; rw [HE2.out]; rfl
          clear hok hc hRd
          generalize hp0 : lp zs j = p0 at HC HU hl1 hne hlc hfl hpl hlt hS ⊢
          clear hp0
          obtain ⟨a0, a1, a2, f0, f1, f2, v0, vf, u0, uf, hg⟩ := hS
          have hS : RlS w p0 (.slice av j cv) wr := ⟨a0, a1, a2, f0, f1, f2, v0, vf, u0, uf, hg⟩
          go_wp2_with fail
          refine HC.out.mono ?_
          rintro e w2 ⟨⟨pv, rfl⟩, g2⟩
          clear HC a0 a1 a2 f0 f1 f2 v0 vf u0 uf hg
          have hR2 := hR.below g2
          have hS := hS.up g2
          have hs2 := g2.size
          clear hR g2
          go_wp2_with fail
          refine leaves_cons (f := 73) (args := #[.pointer (some ⟨w.heap.size + 2, 0, none⟩), .pointer (some ⟨w.heap.size + 1, 0, none⟩), .pointer (some ⟨w.heap.size, 0, none⟩)]) (by simp) (by simp [go_sem]) ?_
          refine (catchR_panicking w.heap.size (w.heap.size + 1) (w.heap.size + 2) p0 av j cv 9 pv [] _ hS.u0 hS.v0 hS.a0 hS.a1 hS.a2 hS.f0 hS.f1 hS.f2).mono ?_
          rintro e u' w'' ⟨rfl, rfl, rfl⟩
          have hg := hS.g
          have hsz := hS.s
          have HO : Hid (OwnRS (w.heap.size + 3) w2.heap.size w2 av j (lgR zs) D) := hR2.ownAt
          obtain ⟨a0, a1, a2, f0, f1, f2, v0, vf, u0, uf, _⟩ := hS
          clear hR2
          refine ⟨.agg #[.int .i64 0, .int .i64 p0, .slice av j cv], by simp [results, Try.results19, go_sem, *], ?_⟩
          unfold RlPost
          rw [HE.out.1, HE.out.2.1, HE.out.2.2, HU.out, ← HE2.out]
          refine ⟨av, cv, D, rfl, by go_grown, ?_, hcv.1, hcv.2⟩
          have T : Turned w.heap.size (w.heap.size + 1) w2 _ := (((Turned.refl _ _ w2).setCell (p := ⟨w.heap.size, 0, none⟩) (by simp) (by simp) (.int .i64 0)).setCell (p := ⟨w.heap.size, 1, none⟩) (by simp) (by simp) (.int .i64 p0)).setCell (p := ⟨w.heap.size, 2, none⟩) (by simp) (by simp) (.slice av j cv)
          exact (HO.out.turned T (.inr (by omega))).mono (by omega) (by simp)

end Go.Proofs.Ytcjkjenebnodbaa
