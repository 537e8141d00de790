/-
  The contract of l4Draw: a record whose runs are few and small.
-/
import Derived.Test.YtcjkjenebnodbaaDoorSLdd
import Derived.Test.YtcjkjenebnodbaaDoorSDfr
import Derived.Test.YtcjkjenebnodbaaDoorSDBnt
import Derived.Test.YtcjkjenebnodbaaDoorSApb
import Derived.Test.YtcjkjenebnodbaaDoorSIrr

namespace Go.Proofs.YtcjkjenebnodbaaDoor
open Go.RowKit
set_option linter.unusedVariables false

/-- Block r holds a record that may be written. -/
structure Rw (w : World) (r : Nat) (k t g : Int) (v : Value) : Prop where
  c0 : w.cell? ⟨r, 0, none⟩ = some (.int .i64 k)
  c1 : w.cell? ⟨r, 1, none⟩ = some (.int .i64 t)
  c2 : w.cell? ⟨r, 2, none⟩ = some (.int .i64 g)
  c3 : w.cell? ⟨r, 3, none⟩ = some v
  f0 : w.frozen? ⟨r, 0, none⟩ = false
  f1 : w.frozen? ⟨r, 1, none⟩ = false
  f2 : w.frozen? ⟨r, 2, none⟩ = false
  f3 : w.frozen? ⟨r, 3, none⟩ = false
section
variable {w w' : World} {r : Nat} {k t g : Int} {v : Value}
theorem Rw.lt (h : Rw w r k t g v) : r < w.heap.size := World.block_lt_of_cell? w _ h.c0
theorem Rw.blk (h : Rw w r k t g v) (he : w'.heap[r]? = w.heap[r]?) : Rw w' r k t g v :=
  ⟨(World.cell?_of_block (a := ⟨r, 0, none⟩) he).trans h.c0, (World.cell?_of_block (a := ⟨r, 1, none⟩) he).trans h.c1, (World.cell?_of_block (a := ⟨r, 2, none⟩) he).trans h.c2, (World.cell?_of_block (a := ⟨r, 3, none⟩) he).trans h.c3,
   (World.frozen?_of_block (a := ⟨r, 0, none⟩) he).trans h.f0, (World.frozen?_of_block (a := ⟨r, 1, none⟩) he).trans h.f1, (World.frozen?_of_block (a := ⟨r, 2, none⟩) he).trans h.f2, (World.frozen?_of_block (a := ⟨r, 3, none⟩) he).trans h.f3⟩
theorem Rw.turned {lo hi : Nat} (h : Rw w r k t g v) (ht : Dr.Turned lo hi w w') (hn : r < lo ∨ hi ≤ r) : Rw w' r k t g v := h.blk (ht.block r h.lt (by omega))
theorem Rw.low {B : Nat} (h : Rw w r k t g v) (hb : Below B w w') (hB : r < B) : Rw w' r k t g v := h.blk (hb.block r hB)
theorem Rw.up (h : Rw w r k t g v) (hb : Below w.heap.size w w') : Rw w' r k t g v := h.low hb h.lt
theorem Rw.other (h : Rw w r k t g v) {p : Addr} (hp : p.block ≠ r) (x : Value) : Rw (w.setCell p x) r k t g v := h.blk (Below.heap_setCell _ _ _ _ (fun e => hp e.symm))
theorem Rw.set1 (h : Rw w r k t g v) (x : Int) : Rw (w.setCell ⟨r, 1, none⟩ (.int .i64 x)) r k x g v :=
  ⟨by rw [World.cell?_setCell_other _ _ _ _ (by simp)]; exact h.c0, World.cell?_setCell_same _ _ _ h.c1, by rw [World.cell?_setCell_other _ _ _ _ (by simp)]; exact h.c2, by rw [World.cell?_setCell_other _ _ _ _ (by simp)]; exact h.c3, by rw [World.frozen?_setCell]; exact h.f0, by rw [World.frozen?_setCell]; exact h.f1, by rw [World.frozen?_setCell]; exact h.f2, by rw [World.frozen?_setCell]; exact h.f3⟩
theorem Rw.set2 (h : Rw w r k t g v) (x : Int) : Rw (w.setCell ⟨r, 2, none⟩ (.int .i64 x)) r k t x v :=
  ⟨by rw [World.cell?_setCell_other _ _ _ _ (by simp)]; exact h.c0, by rw [World.cell?_setCell_other _ _ _ _ (by simp)]; exact h.c1, World.cell?_setCell_same _ _ _ h.c2, by rw [World.cell?_setCell_other _ _ _ _ (by simp)]; exact h.c3, by rw [World.frozen?_setCell]; exact h.f0, by rw [World.frozen?_setCell]; exact h.f1, by rw [World.frozen?_setCell]; exact h.f2, by rw [World.frozen?_setCell]; exact h.f3⟩
theorem Rw.set3 (h : Rw w r k t g v) (x : Value) : Rw (w.setCell ⟨r, 3, none⟩ x) r k t g x :=
  ⟨by rw [World.cell?_setCell_other _ _ _ _ (by simp)]; exact h.c0, by rw [World.cell?_setCell_other _ _ _ _ (by simp)]; exact h.c1, by rw [World.cell?_setCell_other _ _ _ _ (by simp)]; exact h.c2, World.cell?_setCell_same _ _ _ h.c3, by rw [World.frozen?_setCell]; exact h.f0, by rw [World.frozen?_setCell]; exact h.f1, by rw [World.frozen?_setCell]; exact h.f2, by rw [World.frozen?_setCell]; exact h.f3⟩
end

/-- Bytes in a block no lower than lo. -/
def BytesLo (lo : Nat) (w : World) (a : Option Addr) (zs : List Int) : Prop := zs = [] ∨ ∃ g off, a = some ⟨g, off, none⟩ ∧ lo ≤ g ∧ ∀ j, j < zs.length → w.cell? ⟨g, off + j, none⟩ = some (.int .u8 (zs.getD j 0))
/-- Runs in blocks no lower than lo. -/
def RunsLo (lo : Nat) (w : World) (a : Option Addr) (n : Nat) (P : Nat → Int) (A : Nat → Option Addr) (C : Nat → Nat) (Z : Nat → List Int) : Prop :=
  n = 0 ∨ ∃ g off, a = some ⟨g, off, none⟩ ∧ lo ≤ g ∧ ∀ i, i < n → w.cell? ⟨g, off + i * 2, none⟩ = some (.int .i64 (P i)) ∧ w.cell? ⟨g, off + i * 2 + 1, none⟩ = some (.slice (A i) (Z i).length (C i)) ∧ BytesLo lo w (A i) (Z i)
section
variable {lo : Nat} {w w' : World} {a : Option Addr} {zs : List Int} {n : Nat} {P : Nat → Int} {A : Nat → Option Addr} {C : Nat → Nat} {Z : Nat → List Int}
theorem BytesLo.turned {x : Nat} (h : BytesLo lo w a zs) (ht : Dr.Turned x lo w w') : BytesLo lo w' a zs := by
  rcases h with h | ⟨g, off, ha, hg, hc⟩
  · exact .inl h
  · exact .inr ⟨g, off, ha, hg, fun j hj => ht.cell (hc j hj) (.inr hg)⟩
theorem BytesLo.reads (h : BytesLo lo w a zs) : Reads w a zs := by
  rcases h with h | ⟨g, off, ha, hg, hc⟩
  · exact .inl h
  · exact .inr ⟨g, off, ha, hc⟩
theorem bytesLo_in {hi : Nat} (h : BytesIn lo hi w a zs) : BytesLo lo w a zs := by
  rcases h with h | ⟨g, off, ha, hg, _, hc, _⟩
  · exact .inl h
  · exact .inr ⟨g, off, ha, hg, hc⟩
theorem BytesLo.mono {l' : Nat} (h : BytesLo lo w a zs) (hl : l' ≤ lo) : BytesLo l' w a zs := by
  rcases h with h | ⟨g, off, ha, hg, hc⟩
  · exact .inl h
  · exact .inr ⟨g, off, ha, Nat.le_trans hl hg, hc⟩
theorem RunsLo.turned {x : Nat} (h : RunsLo lo w a n P A C Z) (ht : Dr.Turned x lo w w') : RunsLo lo w' a n P A C Z := by
  rcases h with h | ⟨g, off, ha, hg, hc⟩
  · exact .inl h
  · exact .inr ⟨g, off, ha, hg, fun j hj => ⟨ht.cell (hc j hj).1 (.inr hg), ht.cell (hc j hj).2.1 (.inr hg), (hc j hj).2.2.turned ht⟩⟩
theorem RunsLo.mono {l' : Nat} (h : RunsLo lo w a n P A C Z) (hl : l' ≤ lo) : RunsLo l' w a n P A C Z := by
  rcases h with h | ⟨g, off, ha, hg, hc⟩
  · exact .inl h
  · exact .inr ⟨g, off, ha, Nat.le_trans hl hg, fun j hj => ⟨(hc j hj).1, (hc j hj).2.1, (hc j hj).2.2.mono hl⟩⟩
theorem RunsLo.reads (h : RunsLo lo w a n P A C Z) : RunsRead w a n P A C Z := by
  rcases h with h | ⟨g, off, ha, hg, hc⟩
  · exact .inl h
  · exact .inr ⟨g, off, ha, fun j hj => ⟨(hc j hj).1, (hc j hj).2.1, (hc j hj).2.2.reads⟩⟩
end
theorem Dlt.runsLo {n₀ : Nat} {W : World} {v : Value} {k : Nat} {P : Nat → Int} {V : Nat → Value} {Z : Nat → List Int} {B : Nat → Nat} (h : Dlt n₀ W v k P V Z B) : ∃ a c A C, v = .slice a k c ∧ RunsLo n₀ W a k P A C Z := by
  have each : ∀ i, i < k → ∃ q : Option Addr × Nat, V i = .slice q.1 (Z i).length q.2 ∧ BytesLo n₀ W q.1 (Z i) := fun i hi => by
    rcases (h.by' i hi).2 with ⟨e, h0⟩ | ⟨g, cap, cur, e, _⟩
    · exact ⟨(none, 0), by rw [e, h0], .inl (List.eq_nil_of_length_eq_zero h0)⟩
    · refine ⟨(some ⟨g, 0, none⟩, cap), e, ?_⟩
      have hb := h.by' i hi
      rw [e] at hb
      exact (bytesLo_in (bytesIn_owns hb)).mono (h.lo i hi)
  obtain ⟨q, hq⟩ := Go.Deep.choose_lt each
  rcases h.row.2 with ⟨rfl, rfl⟩ | ⟨g, cap, cur, rfl, hn, hg, _⟩
  · exact ⟨none, 0, fun _ => none, fun _ => 0, rfl, .inl rfl⟩
  · have hr := h.row
    refine ⟨some ⟨g, 0, none⟩, cap, fun i => (q i).1, fun i => (q i).2, rfl, .inr ⟨g, 0, rfl, hn, fun i hi => ⟨?_, ?_, (hq i hi).2⟩⟩⟩
    · rw [Nat.zero_add, hr.cellAt (i * 2) (by omega)]; exact (dcells_at P V k i hi).1
    · rw [Nat.zero_add, hr.cellAt (i * 2 + 1) (by omega), (dcells_at P V k i hi).2, (hq i hi).1]

/-- New blocks are written: what was there stays. -/
theorem Dr.Turned.new {b r s : Nat} {w V V' : World} (hT : Dr.Turned b (b + 1) w V) (T : Dr.Turned r s V V') (hr : w.heap.size ≤ r) : Dr.Turned b (b + 1) w V' :=
  ⟨T.os.trans hT.os, T.tape.trans hT.tape, T.output.trans hT.output, Nat.le_trans hT.size T.size, fun k hk hn => (T.block k (Nat.lt_of_lt_of_le hk hT.size) (by omega)).trans (hT.block k hk hn)⟩

/-- What l4Draw hands back. -/
def DrPost (b : Nat) (w : World) (e : Ending) (w' : World) : Prop := ∃ k tx pg a l c P A C Z, e = .returned (.agg #[.int .i64 k, .int .i64 tx, .int .i64 pg, .slice a l c]) ∧ RunsOk l Z ∧ RunsLo w.heap.size w' a l P A C Z ∧ Dr.Turned b (b + 1) w w'

theorem dc_le (za zb : List Int) : ∀ j, Df.dc za zb j ≤ j
  | 0 => Nat.le_refl _
  | j + 1 => by
    have := dc_le za zb j
    unfold Df.dc
    split <;> omega
theorem runsOk_dn (za zb : List Int) (hb : zb.length = 64) (hz : ∀ z ∈ zb, 0 ≤ z ∧ z ≤ 255) : RunsOk (Df.dn za zb 64 0).length (Df.rZ zb (Df.dn za zb 64 0)) := by
  have hI := Df.dn_inc za zb 0
  have hf : (Df.dn za zb 64 0).length ≤ 33 := by
    rcases Df.inc_few hI with h | h
    · rw [h]; simp
    · omega
  have ht := Df.took_dn (za := za) hb
  have hd := dc_le za zb 64
  refine ⟨by omega, fun i hi => ?_, fun i hi z hm => ?_, by omega⟩
  · rw [Df.rZ_len hb hI i hi]
    have := Df.inc_at hI i hi
    omega
  · rw [Df.rZ_at _ _ i hi] at hm
    exact hz z (List.mem_of_mem_drop (List.mem_of_mem_take hm))

theorem draw_fin {b : Nat} {a : Option Addr} {n c : Nat} {zs : List Int} {i j : Int} {w V V' : World} {rb : Nat} {k tx pg : Int} {aa : Option Addr} {l cc : Nat} {P : Nat → Int} {A : Nat → Option Addr} {C : Nat → Nat} {Z : Nat → List Int}
    (hbl : b < w.heap.size) (hT : Dr.Turned b (b + 1) w V) (hS : Dr.SrcAt V b a n c zs j) (hj : j ≤ i + 400) (hV : w.heap.size < V.heap.size) (hOk : RunsOk l Z) (hRL : RunsLo (rb + 1) V aa l P A C Z) (hrw : w.heap.size < rb) (T : Dr.Turned w.heap.size (rb + 1) V V') :
    DrPost b w (.returned (.agg #[.int .i64 k, .int .i64 tx, .int .i64 pg, .slice aa l cc])) V' ∧ ∃ j, j ≤ i + 400 ∧ Dr.SrcAt V' b a n c zs j :=
  ⟨⟨k, tx, pg, aa, l, cc, P, A, C, Z, rfl, hOk, (hRL.turned T).mono (by omega), hT.new T (Nat.le_refl _)⟩, ⟨j, hj, hS.low (T.toBelow (Nat.le_of_lt hV) (Nat.le_refl _)) hbl⟩⟩

set_option maxRecDepth 20000 in
set_option maxHeartbeats 4000000 in
theorem l4Draw_any (b : Nat) (a : Option Addr) (n c : Nat) (zs : List Int) (i : Int) (w : World) (h : Dr.SrcAt w b a n c zs i) (i9 : i ≤ 98000) :
    Calls Tryd.prog 22 #[.pointer (some ⟨b, 0, none⟩)] w fun e w' => DrPost b w e w' ∧ ∃ j, j ≤ i + 400 ∧ Dr.SrcAt w' b a n c zs j := by
  have hbl := h.lt
  go_enter Tryd.func22, Tryd.ntmps22
  go_upto_region 1 with (fail)
  generalize hY : World.alloc _ _ = Y
  have hO : Rw Y w.heap.size 0 0 0 (.slice none 0 0) := by rw [← hY]; exact ⟨by simp [go_sem], by simp [go_sem], by simp [go_sem], by simp [go_sem], by simp [go_sem], by simp [go_sem], by simp [go_sem], by simp [go_sem]⟩
  have g0 : Below w.heap.size w Y := by rw [← hY]; go_grown
  have hS := h.below g0
  have hT : Dr.Turned b (b + 1) w Y := Dr.Turned.ofBelow g0
  have hlt : b < Y.heap.size := hS.lt
  clear hY g0 h
  go_wp2_with fail
  refine (Dr.l1Pick_any b Y.heap.size 7 a n c zs [1, 2, 2, 3, 4, 5, 6] i _ (hS.below (by go_grown)) (by omega) ?_ rfl (by omega) (by omega) hlt).mono ?_
  · intro k hk
    match k, hk with
    | 0, _ => simp [go_sem]
    | 1, _ => simp [go_sem]
    | 2, _ => simp [go_sem]
    | 3, _ => simp [go_sem]
    | 4, _ => simp [go_sem]
    | 5, _ => simp [go_sem]
    | 6, _ => simp [go_sem]
  rintro e w1 ⟨⟨q, hq, rfl⟩, ht, hS⟩
  generalize ([1, 2, 2, 3, 4, 5, 6] : List Int).getD q 0 = k
  have hT := (hT.trans (Dr.Turned.ofBelow (by go_grown))).trans ht
  have hO := (hO.up (w' := Y.alloc _) (by go_grown)).turned ht (.inr (by omega))
  clear ht hlt hq
  go_wp2_with fail
  refine (Dr.l1Next_any b a n c zs _ 5 _ hS (by omega) (by omega) (by omega)).mono ?_
  rintro e w2 ⟨⟨r, rfl, r0, r1⟩, ht, hS⟩
  have hT := hT.trans ht
  have hO := hO.turned ht (.inr (by omega))
  clear ht
  go_upto_region 2 with (fail)
  generalize hY : World.alloc _ _ = Y2
  have hR : Rw Y2 w2.heap.size k (1 + r) 0 (.slice none 0 0) := by rw [← hY]; exact ⟨by simp [go_sem], by simp [go_sem], by simp [go_sem], by simp [go_sem], by simp [go_sem], by simp [go_sem], by simp [go_sem], by simp [go_sem]⟩
  have g2 : Below w2.heap.size w2 Y2 := by rw [← hY]; go_grown
  have hrw : w.heap.size < w2.heap.size := hO.lt
  have hO := hO.up g2
  have hS := hS.below g2
  have hT := hT.trans (Dr.Turned.ofBelow g2)
  generalize w2.heap.size = rb at hR hrw ⊢
  clear hY g2
  have R0 := hR.c0
  go_wp2_with fail
  refine (l4Runs_any k _).mono ?_
  rintro e w3 ⟨rfl, rfl⟩
  clear R0
  cases hkr : inR k 2 4
  · have HF : Hid (∀ V', Dr.Turned w.heap.size (w.heap.size + 1) w3 V' → DrPost b w (.returned (.agg #[.int .i64 k, .int .i64 (1 + r), .int .i64 0, .slice none 0 0])) V' ∧ ∃ j, j ≤ i + 400 ∧ Dr.SrcAt V' b a n c zs j) := fun V' T =>
      ⟨⟨k, 1 + r, 0, none, 0, 0, fun _ => 0, fun _ => none, fun _ => 0, fun _ => [], rfl, ⟨by omega, fun i hi => by omega, fun i hi => by omega, by simp [took]⟩, .inl rfl, hT.new T (Nat.le_refl _)⟩, ⟨_, by omega, hS.low (T.toBelow (Nat.le_of_lt hO.lt) (Nat.le_refl _)) hbl⟩⟩
    obtain ⟨R0, R1, R2, R3, _, _, _, _⟩ := hR
    obtain ⟨O0, O1, O2, O3, F0, F1, F2, F3⟩ := hO
    clear hS hT
    go_wp2_with fail
    refine bodyPost_ret (v := .agg #[.int .i64 k, .int .i64 (1 + r), .int .i64 0, .slice none 0 0]) (by simp [results, Tryd.results22, go_sem, *]) rfl ?_
    exact HF.out _ (((((Dr.Turned.refl _ _ w3).setCell (by simp) (by simp) _).setCell (by simp) (by simp) _).setCell (by simp) (by simp) _).setCell (by simp) (by simp) _)
  · go_wp2_with fail
    refine (Dr.l1Next_any b a n c zs _ 3 _ hS (by omega) (by omega) (by omega)).mono ?_
    rintro e w4 ⟨⟨pg, rfl, g0, g1⟩, ht, hS⟩
    have hT := hT.trans ht
    have hO := hO.turned ht (.inr (by omega))
    have hR := hR.turned ht (.inr (by omega))
    clear ht
    have R2 := hR.c2
    have F2 := hR.f2
    go_upto_region 5 with (fail)
    have hR := hR.set2 pg
    have hO := hO.other (p := ⟨rb, 2, none⟩) (by simp only; omega) (.int .i64 pg)
    have hS := hS.setFar (p := ⟨rb, 2, none⟩) (by simp only; omega) (.int .i64 pg)
    have hT := hT.setNew (p := ⟨rb, 2, none⟩) (by simp only; omega) (.int .i64 pg)
    generalize w4.setCell ⟨rb, 2, none⟩ (.int .i64 pg) = V4 at hR hO hS hT ⊢
    clear R2 F2
    go_wp2_with fail
    refine (Dr.l3Two_any b a n c zs _ _ hS (by omega)).mono ?_
    rintro e w5 ⟨g, dd, ys, g2, d2, ys2, mid, rfl, hdd, hd2, hTw, ht, ⟨j, hj, hS⟩⟩
    have hT := hT.trans ht
    have hrl := hR.lt
    have hO := hO.turned ht (.inr (by omega))
    have hR := hR.turned ht (.inr (by omega))
    have hbm := hTw.bm
    clear ht
    have hl2 := hTw.l2
    have hb2 := hTw.b2
    obtain ⟨e1, e2, e3⟩ := Dr.bytesIn_at hTw.y2 5 (by omega)
    have hg2 : mid ≤ g2 ∧ g2 < w5.heap.size := ⟨by
      rcases hTw.y2 with h0 | ⟨x, o, ha, h1, _⟩
      · rw [h0] at hl2; simp at hl2
      · simp at ha; omega, World.block_lt_of_cell? w5 _ e1⟩
    generalize ys2.getD 5 0 = y at e1
    have hyb : 0 ≤ (y + 1) % 256 ∧ (y + 1) % 256 ≤ 255 := by omega
    have hTw : Dr.Two V4.heap.size mid (w5.setCell ⟨g2, 5, none⟩ (.int .u8 ((y + 1) % 256))) g g2 ys (ys2.set 5 ((y + 1) % 256)) :=
      ⟨Dr.bytesIn_above hTw.y (by simp only; omega) _, (Dr.bytesIn_store hTw.y2 5 (by omega) ((y + 1) % 256)).mono (Nat.le_refl _) (by simp [World.setCell]), hTw.l, by rw [List.length_set]; exact hl2, hTw.b, fun z hz => by
        rcases List.mem_or_eq_of_mem_set hz with h1 | h1
        · exact hb2 z h1
        · omega, hTw.bm⟩
    have hS := hS.setFar (p := ⟨g2, 5, none⟩) (by simp only; omega) (.int .u8 ((y + 1) % 256))
    have hT := hT.setNew (p := ⟨g2, 5, none⟩) (by simp only; omega) (.int .u8 ((y + 1) % 256))
    have hR := hR.other (p := ⟨g2, 5, none⟩) (by simp only; omega) (.int .u8 ((y + 1) % 256))
    have hO := hO.other (p := ⟨g2, 5, none⟩) (by simp only; omega) (.int .u8 ((y + 1) % 256))
    generalize ys2.set 5 ((y + 1) % 256) = yb at hTw
    go_upto_region 7 with (fail)
    generalize w5.setCell ⟨g2, 5, none⟩ (.int .u8 ((y + 1) % 256)) = V5 at hR hO hS hT hTw ⊢
    clear e1 e2 e3 hl2 hb2 hyb
    go_wp2_with fail
    refine (Df.l3DiffD_any _ ys dd _ yb d2 _ hTw.l hTw.l2 hTw.y.reads hTw.y2.reads).mono ?_
    rintro e w6 ⟨a', c', VV, BB, rfl, g6, hD⟩
    have hrl5 := hR.lt
    have hR := hR.up g6
    have hO := hO.up g6
    have hS := hS.below g6
    have hT := hT.trans (Dr.Turned.ofBelow g6)
    have HY2 : Hid (BytesLo (rb + 1) w6 (some ⟨g2, 0, none⟩) yb ∧ yb.length = 64 ∧ ∀ z ∈ yb, 0 ≤ z ∧ z ≤ 255) := ⟨(bytesLo_in (hTw.y2.below g6)).mono (by omega), hTw.l2, hTw.b2⟩
    obtain ⟨aa, cc, A, C, hv, hRL⟩ := hD.runsLo
    simp only [Value.slice.injEq] at hv
    obtain ⟨rfl, _, rfl⟩ := hv
    have HOk : Hid (RunsOk (Df.dn ys yb 64 0).length (Df.rZ yb (Df.dn ys yb 64 0))) := runsOk_dn ys yb hTw.l2 hTw.b2
    have HRL : Hid (RunsLo (rb + 1) w6 a' (Df.dn ys yb 64 0).length (Df.rP (Df.dn ys yb 64 0)) A C (Df.rZ yb (Df.dn ys yb 64 0))) := hRL.mono (by omega)
    clear hD hRL hTw g6
    generalize (Df.dn ys yb 64 0).length = ln at HOk HRL ⊢
    generalize Df.rP (Df.dn ys yb 64 0) = P at HRL
    generalize Df.rZ yb (Df.dn ys yb 64 0) = Z at HOk HRL
    have hln : ln ≤ 64 := HOk.out.few
    have R3 := hR.c3
    have F3 := hR.f3
    go_upto_region 8 with (fail)
    have T := (Dr.Turned.refl w.heap.size (rb + 1) w6).setCell (p := ⟨rb, 3, none⟩) (by simp only; omega) (by simp only; omega) (.slice a' ln c')
    have hR := hR.set3 (.slice a' ln c')
    have hO := hO.other (p := ⟨rb, 3, none⟩) (by simp only; omega) (.slice a' ln c')
    have hS := hS.setFar (p := ⟨rb, 3, none⟩) (by simp only; omega) (.slice a' ln c')
    have hT := hT.setNew (p := ⟨rb, 3, none⟩) (by simp only; omega) (.slice a' ln c')
    have HRL : Hid (RunsLo (rb + 1) (w6.setCell ⟨rb, 3, none⟩ (.slice a' ln c')) a' ln P A C Z) := HRL.out.turned T
    have HY2 : Hid (BytesLo (rb + 1) (w6.setCell ⟨rb, 3, none⟩ (.slice a' ln c')) (some ⟨g2, 0, none⟩) yb ∧ yb.length = 64 ∧ ∀ z ∈ yb, 0 ≤ z ∧ z ≤ 255) := ⟨HY2.out.1.turned T, HY2.out.2⟩
    generalize w6.setCell ⟨rb, 3, none⟩ (.slice a' ln c') = V6 at hR hO hS hT HRL HY2 ⊢
    clear R3 F3 T
    by_cases h4 : k = 4
    · subst h4
      have R0 := hR.c0
      have R1 := hR.c1
      have F1 := hR.f1
      go_upto_region 10 with (fail)
      have T := (Dr.Turned.refl w.heap.size (rb + 1) V6).setCell (p := ⟨rb, 1, none⟩) (by simp only; omega) (by simp only; omega) (.int .i64 0)
      have hR := hR.set1 0
      have hO := hO.other (p := ⟨rb, 1, none⟩) (by simp only; omega) (.int .i64 0)
      have hS := hS.setFar (p := ⟨rb, 1, none⟩) (by simp only; omega) (.int .i64 0)
      have hT := hT.setNew (p := ⟨rb, 1, none⟩) (by simp only; omega) (.int .i64 0)
      have HY2 : Hid (BytesLo (rb + 1) (V6.setCell ⟨rb, 1, none⟩ (.int .i64 0)) (some ⟨g2, 0, none⟩) yb ∧ yb.length = 64 ∧ ∀ z ∈ yb, 0 ≤ z ∧ z ≤ 255) := ⟨HY2.out.1.turned T, HY2.out.2⟩
      generalize V6.setCell ⟨rb, 1, none⟩ (.int .i64 0) = V7 at hR hO hS hT HY2 ⊢
      clear R0 R1 F1 T HRL HOk
      have R3 := hR.c3
      have F3 := hR.f3
      have hrl := hR.lt
      go_upto_region 11 with (fail)
      have T := (Dr.Turned.refl w.heap.size (rb + 1) V7).setCell (p := ⟨rb, 3, none⟩) (by simp only; omega) (by simp only; omega) (.slice (some ⟨V7.heap.size, 0, none⟩) 1 1)
      have hR := hR.set3 (.slice (some ⟨V7.heap.size, 0, none⟩) 1 1)
      have hO := hO.other (p := ⟨rb, 3, none⟩) (by simp only; omega) (.slice (some ⟨V7.heap.size, 0, none⟩) 1 1)
      have hS := hS.setFar (p := ⟨rb, 3, none⟩) (by simp only; omega) (.slice (some ⟨V7.heap.size, 0, none⟩) 1 1)
      have hT := hT.setNew (p := ⟨rb, 3, none⟩) (by simp only; omega) (.slice (some ⟨V7.heap.size, 0, none⟩) 1 1)
      have HY2 : Hid (BytesLo (rb + 1) (V7.setCell ⟨rb, 3, none⟩ (.slice (some ⟨V7.heap.size, 0, none⟩) 1 1)) (some ⟨g2, 0, none⟩) yb ∧ yb.length = 64 ∧ ∀ z ∈ yb, 0 ≤ z ∧ z ≤ 255) := ⟨HY2.out.1.turned T, HY2.out.2⟩
      have hsz : (V7.setCell ⟨rb, 3, none⟩ (.slice (some ⟨V7.heap.size, 0, none⟩) 1 1)).heap.size = V7.heap.size := by simp
      generalize V7.setCell ⟨rb, 3, none⟩ (.slice (some ⟨V7.heap.size, 0, none⟩) 1 1) = V8 at hR hO hS hT HY2 hsz ⊢
      rw [← hsz] at hR ⊢
      clear R3 F3 T
      generalize hY : World.alloc V8 _ = V9
      have g9 : Below V8.heap.size V8 V9 := by rw [← hY]; go_grown
      have q0 : V9.cell? ⟨V8.heap.size, 0, none⟩ = some (.int .i64 0) := by rw [← hY]; simp [go_sem]
      have q1 : V9.cell? ⟨V8.heap.size, 1, none⟩ = some (.slice (some ⟨g2, 0, none⟩) 64 d2) := by rw [← hY]; simp [go_sem]
      have HRL : Hid (RunsLo (rb + 1) V9 (some ⟨V8.heap.size, 0, none⟩) 1 (fun _ => 0) (fun _ => some ⟨g2, 0, none⟩) (fun _ => d2) (fun _ => yb)) := .inr ⟨V8.heap.size, 0, rfl, by omega, fun i hi => by
        obtain rfl : i = 0 := by omega
        exact ⟨q0, by rw [HY2.out.2.1]; exact q1, HY2.out.1.turned (Dr.Turned.ofBelow (lo := 0) g9)⟩⟩
      have HOk : Hid (RunsOk 1 (fun _ => yb)) := ⟨by omega, fun i hi => by rw [HY2.out.2.1]; omega, fun i hi => HY2.out.2.2, by simp [took, HY2.out.2.1]⟩
      have hR := hR.up g9
      have hO := hO.up g9
      have hS := hS.below g9
      have hT := hT.trans (Dr.Turned.ofBelow g9)
      clear hY q0 q1 HY2 g9
      generalize V8.heap.size = gb at hR HRL ⊢
      have HF : Hid (∀ V', Dr.Turned w.heap.size (rb + 1) V9 V' → DrPost b w (.returned (.agg #[.int .i64 4, .int .i64 0, .int .i64 pg, .slice (some ⟨gb, 0, none⟩) 1 1])) V' ∧ ∃ j, j ≤ i + 400 ∧ Dr.SrcAt V' b a n c zs j) := fun V' T => draw_fin hbl hT hS (by omega) hO.lt HOk.out HRL.out hrw T
      obtain ⟨R0, R1, R2, R3, _, _, _, _⟩ := hR
      obtain ⟨O0, O1, O2, O3, F0, F1, F2, F3⟩ := hO
      clear hS hT HRL HOk
      go_wp2_with fail
      refine bodyPost_ret (v := .agg #[.int .i64 4, .int .i64 0, .int .i64 pg, .slice (some ⟨gb, 0, none⟩) 1 1]) (by simp [results, Tryd.results22, go_sem, *]) rfl ?_
      exact HF.out _ (((((Dr.Turned.refl _ _ V9).setCell (by simp) (by simp; omega) _).setCell (by simp) (by simp; omega) _).setCell (by simp) (by simp; omega) _).setCell (by simp) (by simp; omega) _)
    · by_cases hl0 : ln = 0
      · subst hl0
        have R0 := hR.c0
        have R3 := hR.c3
        have F3 := hR.f3
        have hrl := hR.lt
        go_upto_region 13 with (fail)
        have hR := hR.set3 (.slice (some ⟨V6.heap.size + 1, 0, none⟩) 1 1)
        have hO := hO.other (p := ⟨rb, 3, none⟩) (by simp only; omega) (.slice (some ⟨V6.heap.size + 1, 0, none⟩) 1 1)
        have hS := hS.setFar (p := ⟨rb, 3, none⟩) (by simp only; omega) (.slice (some ⟨V6.heap.size + 1, 0, none⟩) 1 1)
        have hT := hT.setNew (p := ⟨rb, 3, none⟩) (by simp only; omega) (.slice (some ⟨V6.heap.size + 1, 0, none⟩) 1 1)
        have hsz : (V6.setCell ⟨rb, 3, none⟩ (.slice (some ⟨V6.heap.size + 1, 0, none⟩) 1 1)).heap.size = V6.heap.size := by simp
        generalize V6.setCell ⟨rb, 3, none⟩ (.slice (some ⟨V6.heap.size + 1, 0, none⟩) 1 1) = V8 at hR hO hS hT hsz ⊢
        rw [← hsz] at hR ⊢
        clear R0 R3 F3 HRL HOk HY2
        generalize hY : World.alloc (World.alloc V8 _) _ = V9
        have g9 : Below V8.heap.size V8 V9 := by rw [← hY]; go_grown
        have q0 : V9.cell? ⟨V8.heap.size + 1, 0, none⟩ = some (.int .i64 3) := by rw [← hY]; simp [go_sem]
        have q1 : V9.cell? ⟨V8.heap.size + 1, 1, none⟩ = some (.slice (some ⟨V8.heap.size, 0, none⟩) 1 1) := by rw [← hY]; simp [go_sem]
        have q2 : V9.cell? ⟨V8.heap.size, 0, none⟩ = some (.int .u8 1) := by rw [← hY]; simp [go_sem]
        have HRL : Hid (RunsLo (rb + 1) V9 (some ⟨V8.heap.size + 1, 0, none⟩) 1 (fun _ => 3) (fun _ => some ⟨V8.heap.size, 0, none⟩) (fun _ => 1) (fun _ => [1])) := .inr ⟨V8.heap.size + 1, 0, rfl, by omega, fun i hi => by
          obtain rfl : i = 0 := by omega
          exact ⟨q0, q1, .inr ⟨V8.heap.size, 0, rfl, by omega, fun j hj => by
            obtain rfl : j = 0 := by simp at hj; omega
            exact q2⟩⟩⟩
        have HOk : Hid (RunsOk 1 (fun _ => [1])) := ⟨by omega, fun i hi => by simp, fun i hi z hz => by simp at hz; omega, by simp [took]⟩
        have hR := hR.up g9
        have hO := hO.up g9
        have hS := hS.below g9
        have hT := hT.trans (Dr.Turned.ofBelow g9)
        clear hY q0 q1 q2 g9
        generalize V8.heap.size + 1 = gb at hR HRL ⊢
        have HF : Hid (∀ V', Dr.Turned w.heap.size (rb + 1) V9 V' → DrPost b w (.returned (.agg #[.int .i64 k, .int .i64 (1 + r), .int .i64 pg, .slice (some ⟨gb, 0, none⟩) 1 1])) V' ∧ ∃ j, j ≤ i + 400 ∧ Dr.SrcAt V' b a n c zs j) := fun V' T => draw_fin hbl hT hS (by omega) hO.lt HOk.out HRL.out hrw T
        obtain ⟨R0, R1, R2, R3, _, _, _, _⟩ := hR
        obtain ⟨O0, O1, O2, O3, F0, F1, F2, F3⟩ := hO
        clear hS hT HRL HOk
        go_wp2_with fail
        refine bodyPost_ret (v := .agg #[.int .i64 k, .int .i64 (1 + r), .int .i64 pg, .slice (some ⟨gb, 0, none⟩) 1 1]) (by simp [results, Tryd.results22, go_sem, *]) rfl ?_
        exact HF.out _ (((((Dr.Turned.refl _ _ V9).setCell (by simp) (by simp; omega) _).setCell (by simp) (by simp; omega) _).setCell (by simp) (by simp; omega) _).setCell (by simp) (by simp; omega) _)
      · have HF : Hid (∀ V', Dr.Turned w.heap.size (rb + 1) V6 V' → DrPost b w (.returned (.agg #[.int .i64 k, .int .i64 (1 + r), .int .i64 pg, .slice a' ln c'])) V' ∧ ∃ j, j ≤ i + 400 ∧ Dr.SrcAt V' b a n c zs j) := fun V' T => draw_fin hbl hT hS (by omega) hO.lt HOk.out HRL.out hrw T
        obtain ⟨R0, R1, R2, R3, _, _, _, _⟩ := hR
        obtain ⟨O0, O1, O2, O3, F0, F1, F2, F3⟩ := hO
        clear hS hT HRL HY2 HOk
        go_wp2_with fail
        refine bodyPost_ret (v := .agg #[.int .i64 k, .int .i64 (1 + r), .int .i64 pg, .slice a' ln c']) (by simp [results, Tryd.results22, go_sem, *]) rfl ?_
        exact HF.out _ (((((Dr.Turned.refl _ _ V6).setCell (by simp) (by simp; omega) _).setCell (by simp) (by simp; omega) _).setCell (by simp) (by simp; omega) _).setCell (by simp) (by simp; omega) _)

end Go.Proofs.YtcjkjenebnodbaaDoor
