/-
  The contract of l5Right: a log in two slices of its own.
-/
import Derived.Test.YtcjkjenebnodbaaRDrd

namespace Go.Proofs.Ytcjkjenebnodbaa
open Go.RowKit
set_option linter.unusedVariables false

/-- Block b holds two slices that may be written. -/
structure Lc (w : World) (b : Nat) (u v : Value) : Prop where
  c0 : w.cell? ⟨b, 0, none⟩ = some u
  c1 : w.cell? ⟨b, 1, none⟩ = some v
  f0 : w.frozen? ⟨b, 0, none⟩ = false
  f1 : w.frozen? ⟨b, 1, none⟩ = false
section
variable {w w' : World} {b : Nat} {u v : Value}
theorem Lc.lt (h : Lc w b u v) : b < w.heap.size := World.block_lt_of_cell? w _ h.c0
theorem Lc.blk (h : Lc w b u v) (he : w'.heap[b]? = w.heap[b]?) : Lc w' b u v :=
  ⟨(World.cell?_of_block (a := ⟨b, 0, none⟩) he).trans h.c0, (World.cell?_of_block (a := ⟨b, 1, none⟩) he).trans h.c1, (World.frozen?_of_block (a := ⟨b, 0, none⟩) he).trans h.f0, (World.frozen?_of_block (a := ⟨b, 1, none⟩) he).trans h.f1⟩
theorem Lc.turned {lo hi : Nat} (h : Lc w b u v) (ht : Dr.Turned lo hi w w') (hn : b < lo ∨ hi ≤ b) : Lc w' b u v := h.blk (ht.block b h.lt (by omega))
theorem Lc.up (h : Lc w b u v) (hb : Below w.heap.size w w') : Lc w' b u v := h.blk (hb.block b h.lt)
theorem Lc.other (h : Lc w b u v) {p : Addr} (hp : p.block ≠ b) (x : Value) : Lc (w.setCell p x) b u v := h.blk (Below.heap_setCell _ _ _ _ (fun e => hp e.symm))
theorem Lc.set0 (h : Lc w b u v) (x : Value) : Lc (w.setCell ⟨b, 0, none⟩ x) b x v :=
  ⟨World.cell?_setCell_same _ _ _ h.c0, by rw [World.cell?_setCell_other _ _ _ _ (by simp)]; exact h.c1, by rw [World.frozen?_setCell]; exact h.f0, by rw [World.frozen?_setCell]; exact h.f1⟩
theorem Lc.set1 (h : Lc w b u v) (x : Value) : Lc (w.setCell ⟨b, 1, none⟩ x) b u x :=
  ⟨by rw [World.cell?_setCell_other _ _ _ _ (by simp)]; exact h.c0, World.cell?_setCell_same _ _ _ h.c1, by rw [World.frozen?_setCell]; exact h.f0, by rw [World.frozen?_setCell]; exact h.f1⟩
end
theorem Gb.turnedD {base lo hi : Nat} {w w' : World} {v : Value} {xs : List Int} (h : Gb base w v xs) (ht : Dr.Turned lo hi w w') (hb : hi ≤ base) : Gb base w' v xs := h.turned (lo := lo) (hi := hi) ⟨ht.os, ht.tape, ht.output, ht.size, ht.block⟩ hb
section
variable {lo mid : Nat} {w w' : World} {x y : Option Addr} {xs ys : List Int} {n c m d : Nat}
theorem Lw.turned {r : Nat} (h : Lw lo mid w x y xs ys n c m d) (ht : Dr.Turned r lo w w') : Lw lo mid w' x y xs ys n c m d := ⟨h.s.turnedD ht (Nat.le_refl _), h.up, h.l.turnedD ht h.h1, h.h1, Nat.le_trans h.h2 ht.size⟩
theorem Lw.low {l' : Nat} (h : Lw lo mid w x y xs ys n c m d) (hl : l' ≤ lo) : Lw l' mid w x y xs ys n c m d := ⟨h.s.low hl, h.up, h.l, Nat.le_trans hl h.h1, h.h2⟩
theorem Gb.bytesIn {a : Option Addr} (h : Gb lo w (.slice a n c) xs) : BytesIn lo w.heap.size w a xs := by
  obtain ⟨r2, c2, hv2, _, _, hb2, _⟩ := h.shape
  simp only [Value.slice.injEq] at hv2
  rw [hv2.1]
  exact hb2
theorem Gb.caps {a : Option Addr} (h : Gb lo w (.slice a n c) xs) : xs.length = n ∧ n ≤ c ∧ c ≤ 9223372036854775807 := by
  obtain ⟨r2, c2, hv2, h1, h2, _, _⟩ := h.shape
  simp only [Value.slice.injEq] at hv2
  omega
end

/-- A log that was drawn. -/
structure Ld (lo : Nat) (N : Nat) (w : World) (x y : Option Addr) (xs ys : List Int) (n c m d : Nat) : Prop where
  o : ∃ mid, Lw lo mid w x y xs ys n c m d
  xb : ∀ z ∈ xs, 0 ≤ z ∧ z ≤ 255
  yb : ∀ z ∈ ys, 0 ≤ z ∧ z ≤ 255
  sz : n + m ≤ N
section
variable {lo N : Nat} {w w' : World} {x y : Option Addr} {xs ys : List Int} {n c m d : Nat}
theorem Ld.turned {r : Nat} (h : Ld lo N w x y xs ys n c m d) (ht : Dr.Turned r lo w w') : Ld lo N w' x y xs ys n c m d := ⟨⟨_, h.o.choose_spec.turned ht⟩, h.xb, h.yb, h.sz⟩
theorem Ld.up (h : Ld lo N w x y xs ys n c m d) (hb : Below w.heap.size w w') : Ld lo N w' x y xs ys n c m d := h.turned (r := lo) (Dr.Turned.ofBelow hb)
theorem Ld.low {l' : Nat} (h : Ld lo N w x y xs ys n c m d) (hl : l' ≤ lo) : Ld l' N w x y xs ys n c m d := ⟨⟨_, h.o.choose_spec.low hl⟩, h.xb, h.yb, h.sz⟩
theorem Ld.more {M : Nat} (h : Ld lo N w x y xs ys n c m d) (hl : N ≤ M) : Ld lo M w x y xs ys n c m d := ⟨h.o, h.xb, h.yb, Nat.le_trans h.sz hl⟩
theorem Ld.len (h : Ld lo N w x y xs ys n c m d) : xs.length = n ∧ ys.length = m := ⟨h.o.choose_spec.s.caps.1, h.o.choose_spec.l.caps.1⟩
theorem Ld.rx (h : Ld lo N w x y xs ys n c m d) : Reads w x xs := h.o.choose_spec.s.bytesIn.reads
theorem Ld.ry (h : Ld lo N w x y xs ys n c m d) : Reads w y ys := h.o.choose_spec.l.bytesIn.reads
end

/-- What l5Right hands back. -/
def LrPost (N b : Nat) (w : World) (e : Ending) (w' : World) : Prop := ∃ x y xs ys n c m d, e = .returned (.agg #[.slice x n c, .slice y m d]) ∧ Ld w.heap.size N w' x y xs ys n c m d ∧ Dr.Turned b (b + 1) w w'

set_option maxRecDepth 20000 in
set_option maxHeartbeats 4000000 in
theorem l5Right_any (b : Nat) (a : Option Addr) (n c : Nat) (zs : List Int) (i : Int) (w : World) (h : Dr.SrcAt w b a n c zs i) (i9 : i ≤ 90000) :
    Calls Try.prog 114 #[.pointer (some ⟨b, 0, none⟩)] w fun e w' => LrPost 1530 b w e w' ∧ ∃ j, j ≤ i + 3000 ∧ Dr.SrcAt w' b a n c zs j := by
  have hbl := h.lt
  go_enter Try.func114, Try.ntmps114
  go_upto_region 2 with (fail)
  generalize hY : World.alloc _ _ = Y
  have hO : Lc Y w.heap.size (.slice none 0 0) (.slice none 0 0) := by rw [← hY]; exact ⟨by simp [go_sem], by simp [go_sem], by simp [go_sem], by simp [go_sem]⟩
  have hL : Lc Y (w.heap.size + 1) (.slice none 0 0) (.slice none 0 0) := by rw [← hY]; exact ⟨by simp [go_sem], by simp [go_sem], by simp [go_sem], by simp [go_sem]⟩
  have g0 : Below w.heap.size w Y := by rw [← hY]; go_grown
  have hS := h.below g0
  have hT : Dr.Turned b (b + 1) w Y := Dr.Turned.ofBelow g0
  clear hY g0 h
  go_wp2_with fail
  refine (Dr.l1Next_any b a n c zs i 7 _ hS (by omega) (by omega) (by omega)).mono ?_
  rintro e w1 ⟨⟨r, rfl, r0, r1⟩, ht, hS⟩
  have hT := hT.trans ht
  have hO := hO.turned ht (.inr (by omega))
  have hL := hL.turned ht (.inr (by omega))
  clear ht
  obtain ⟨r', rfl⟩ : ∃ r' : Nat, r = r' := ⟨r.toNat, by omega⟩
  have hD : Ld (w.heap.size + 2) 0 w1 none none [] [] 0 0 0 0 := ⟨⟨w.heap.size + 2, Gb.nil _ _, fun g e => by simp [Value.ownBlock] at e, Gb.nil _ _, Nat.le_refl _, hL.lt⟩, fun z hz => by simp at hz, fun z hz => by simp at hz, Nat.le_refl _⟩
  go_wp2_with fail
  go_loopw [4] (fun kk wr => ∃ (q : Nat) (x y : Option Addr) (xs ys : List Int) (nn cc m d : Nat) (j : Int), q ≤ 6 ∧ kk = .int .i64 q ∧ Lc wr (w.heap.size + 1) (.slice x nn cc) (.slice y m d) ∧ Lc wr w.heap.size (.slice none 0 0) (.slice none 0 0) ∧ Ld (w.heap.size + 2) (255 * (6 - q)) wr x y xs ys nn cc m d ∧ Dr.Turned b (b + 1) w wr ∧ j ≤ i + 1 + 402 * (6 - (q : Int)) ∧ Dr.SrcAt wr b a n c zs j) (fun kk _ => (intOf kk).toNat)
  case atStart => exact ⟨r', none, none, [], [], 0, 0, 0, 0, _, by omega, rfl, hL, hO, hD.more (by omega), hT, by omega, hS⟩
  case round =>
    clear hL hO hD hT hS
    obtain ⟨q, x, y, xs, ys, nn, cc, m, d, j, hq, rfl, hL, hO, hD, hT, hj, hS⟩ := hrel
    by_cases h0 : q = 0
    · subst h0
      have HF : Hid (∀ V', Dr.Turned w.heap.size (w.heap.size + 1) wr V' → LrPost 1530 b w (.returned (.agg #[.slice x nn cc, .slice y m d])) V' ∧ ∃ j, j ≤ i + 3000 ∧ Dr.SrcAt V' b a n c zs j) := fun V' T =>
        ⟨⟨x, y, xs, ys, nn, cc, m, d, rfl, ((hD.turned (r := w.heap.size) ⟨T.os, T.tape, T.output, T.size, fun k hk hn => T.block k hk (by omega)⟩).low (by omega)).more (by omega), hT.new T (Nat.le_refl _)⟩, ⟨j, by omega, hS.low (T.toBelow (Nat.le_of_lt hO.lt) (Nat.le_refl _)) hbl⟩⟩
      obtain ⟨L0, L1, _, _⟩ := hL
      obtain ⟨O0, O1, F0, F1⟩ := hO
      clear hS hT hD
      go_wp2_with fail
      refine bodyPost_ret (v := .agg #[.slice x nn cc, .slice y m d]) (by simp [results, Try.results114, go_sem, *]) rfl ?_
      exact HF.out _ (((Dr.Turned.refl _ _ wr).setCell (by simp) (by simp) _).setCell (by simp) (by simp) _)
    · have hq0 : (0 : Int) < (q : Int) := by omega
      go_wp2_with fail
      refine (l4Draw_any b a n c zs j _ hS (by omega)).mono ?_
      rintro e w2 ⟨⟨k, tx, pg, aa, l, ec, P, A, C, Z, rfl, hOk, hRL, ht⟩, ⟨j2, hj2, hS⟩⟩
      have hlr := hL.lt
      have hL := hL.turned ht (.inr (by omega))
      have hO := hO.turned ht (.inr (by omega))
      have hD := hD.turned (r := b) ⟨ht.os, ht.tape, ht.output, ht.size, fun k hk hn => ht.block k hk (by omega)⟩
      have hT := hT.trans ht
      clear ht
      have hRR := hRL.reads
      go_upto_region 6 with (fail)
      generalize hY : World.alloc _ _ = Y2
      have g2 : Below w2.heap.size w2 Y2 := by rw [← hY]; go_grown
      have hRc : RcAt Y2 w2.heap.size k tx pg aa l ec := by rw [← hY]; exact ⟨by simp [go_sem], by simp [go_sem], by simp [go_sem], by simp [go_sem]⟩
      have hlr2 := hL.lt
      have hL := hL.up g2
      have hO := hO.up g2
      have hD := hD.up g2
      have hS := hS.below g2
      have hT := hT.trans (Dr.Turned.ofBelow g2)
      have hRR := hRR.below g2 (Nat.le_refl _)
      generalize w2.heap.size = rb at hRc hlr2 ⊢
      clear hY g2 hRL
      obtain ⟨hxl, hyl⟩ := hD.len
      have hsz := hD.sz
      have hpl : (packB k tx pg l P Z).length ≤ 255 := by rw [packB_len]; exact hOk.tot
      have HPb : Hid (∀ z ∈ packB k tx pg l P Z, 0 ≤ z ∧ z ≤ 255) := packB_bd hOk.few hOk.tot hOk.both
      have L0 := hL.c0
      have L1 := hL.c1
      have M0 := hL.f0
      have M1 := hL.f1
      go_wp2_with fail
      refine (l5AppendG_any x y xs ys nn cc m d rb k tx pg aa l ec P A C Z _ hxl hyl (by omega) (by omega) hD.rx hD.ry hOk hRR hRc).mono ?_
      rintro e w3 ⟨_, hp⟩
      obtain ⟨p, cp, r2, cr, mid, rfl, g3, hLw⟩ := hp (by omega)
      have hD3 : Ld (w.heap.size + 2) (255 * (6 - (q - 1))) w3 p r2 xs (ys ++ packB k tx pg l P Z) nn cp (m + (packB k tx pg l P Z).length) cr := ⟨⟨mid, hLw.low (by have := hL.lt; omega)⟩, hD.xb, fun z hz => by
        rcases List.mem_append.1 hz with h1 | h1
        · exact hD.yb z h1
        · exact HPb.out z h1, by omega⟩
      have hL := hL.up g3
      have hO := hO.up g3
      have hS := hS.below g3
      have hT := hT.trans (Dr.Turned.ofBelow g3)
      generalize ys ++ packB k tx pg l P Z = us at hD3
      generalize m + (packB k tx pg l P Z).length = mm at hD3 ⊢
      clear hp hLw g3 L0 L1 M0 M1 hRR hRc hD HPb hOk hsz hpl hxl hyl
      have L0 := hL.c0
      have L1 := hL.c1
      have M0 := hL.f0
      have M1 := hL.f1
      go_upto_region 7 with (fail)
      have T := ((Dr.Turned.refl (w.heap.size + 1) (w.heap.size + 2) w3).setCell (p := ⟨w.heap.size + 1, 0, none⟩) (by simp) (by simp) (.slice p nn cp)).setCell (p := ⟨w.heap.size + 1, 1, none⟩) (by simp) (by simp) (.slice r2 mm cr)
      have hL := (hL.set0 (.slice p nn cp)).set1 (.slice r2 mm cr)
      have hO := hO.turned T (.inl (by omega))
      have hD := hD3.turned T
      have hS := (hS.setFar (p := ⟨w.heap.size + 1, 0, none⟩) (by simp only; omega) (.slice p nn cp)).setFar (p := ⟨w.heap.size + 1, 1, none⟩) (by simp only; omega) (.slice r2 mm cr)
      have hT := hT.new T (by omega)
      generalize (w3.setCell ⟨w.heap.size + 1, 0, none⟩ (.slice p nn cp)).setCell ⟨w.heap.size + 1, 1, none⟩ (.slice r2 mm cr) = V4 at hL hO hD hS hT ⊢
      clear L0 L1 M0 M1 T hD3
      go_wp2_with fail
      refine (Dr.l1Chance_any b a n c zs j2 3 _ hS (by omega) (by omega) (by omega)).mono ?_
      rintro e w5 ⟨⟨o, rfl⟩, ht, hS⟩
      have hlr := hL.lt
      have hL := hL.turned ht (.inr (by omega))
      have hO := hO.turned ht (.inr (by omega))
      have hD := hD.turned (r := b) ⟨ht.os, ht.tape, ht.output, ht.size, fun k hk hn => ht.block k hk (by omega)⟩
      have hT := hT.trans ht
      clear ht
      cases o
      · go_wp2_with fail
        go_roundw
        case rel => exact ⟨q - 1, p, r2, xs, us, nn, cp, mm, cr, _, by omega, by go_num, hL, hO, hD, hT, by omega, hS⟩
        case measure => simp [intOf]; omega
      · have L0 := hL.c0
        have L1 := hL.c1
        have M0 := hL.f0
        have M1 := hL.f1
        obtain ⟨hxl, hyl⟩ := hD.len
        have hsz := hD.sz
        go_wp2_with fail
        refine (l5SyncG_any p r2 xs us nn cp mm cr _ hxl hyl (by omega) (by omega) hD.rx hD.ry).mono ?_
        rintro e w6 ⟨p2, cp2, mid2, rfl, g6, hLw⟩
        have hD6 : Ld (w.heap.size + 2) (255 * (6 - (q - 1))) w6 p2 none (xs ++ us) [] (xs ++ us).length cp2 0 0 := ⟨⟨mid2, hLw.low (by have := hL.lt; omega)⟩, fun z hz => by
          rcases List.mem_append.1 hz with h1 | h1
          · exact hD.xb z h1
          · exact hD.yb z h1, fun z hz => by simp at hz, by rw [List.length_append, hxl, hyl]; exact hsz⟩
        have hL := hL.up g6
        have hO := hO.up g6
        have hS := hS.below g6
        have hT := hT.trans (Dr.Turned.ofBelow g6)
        generalize (xs ++ us).length = nx at hD6 ⊢
        generalize xs ++ us = vs at hD6
        clear hLw g6 L0 L1 M0 M1 hsz hxl hyl hD
        have T := ((Dr.Turned.refl (w.heap.size + 1) (w.heap.size + 2) w6).setCell (p := ⟨w.heap.size + 1, 0, none⟩) (by simp) (by simp) (.slice p2 nx cp2)).setCell (p := ⟨w.heap.size + 1, 1, none⟩) (by simp) (by simp) (.slice none 0 0)
        have HL : Hid (Lc ((w6.setCell ⟨w.heap.size + 1, 0, none⟩ (.slice p2 nx cp2)).setCell ⟨w.heap.size + 1, 1, none⟩ (.slice none 0 0)) (w.heap.size + 1) (.slice p2 nx cp2) (.slice none 0 0)) := (hL.set0 (.slice p2 nx cp2)).set1 (.slice none 0 0)
        have HO : Hid (Lc ((w6.setCell ⟨w.heap.size + 1, 0, none⟩ (.slice p2 nx cp2)).setCell ⟨w.heap.size + 1, 1, none⟩ (.slice none 0 0)) w.heap.size (.slice none 0 0) (.slice none 0 0)) := hO.turned T (.inl (by omega))
        have HD : Hid (Ld (w.heap.size + 2) (255 * (6 - (q - 1))) ((w6.setCell ⟨w.heap.size + 1, 0, none⟩ (.slice p2 nx cp2)).setCell ⟨w.heap.size + 1, 1, none⟩ (.slice none 0 0)) p2 none vs [] nx cp2 0 0) := hD6.turned T
        have HS : Hid (Dr.SrcAt ((w6.setCell ⟨w.heap.size + 1, 0, none⟩ (.slice p2 nx cp2)).setCell ⟨w.heap.size + 1, 1, none⟩ (.slice none 0 0)) b a n c zs (j2 + 1)) := (hS.setFar (p := ⟨w.heap.size + 1, 0, none⟩) (by simp only; omega) (.slice p2 nx cp2)).setFar (p := ⟨w.heap.size + 1, 1, none⟩) (by simp only; omega) (.slice none 0 0)
        have HT : Hid (Dr.Turned b (b + 1) w ((w6.setCell ⟨w.heap.size + 1, 0, none⟩ (.slice p2 nx cp2)).setCell ⟨w.heap.size + 1, 1, none⟩ (.slice none 0 0))) := hT.new T (by omega)
        have L0 := hL.c0
        have L1 := hL.c1
        have M0 := hL.f0
        have M1 := hL.f1
        clear hL hO hS hT hD6 T
        go_wp2_with fail
        go_roundw
        case rel => exact ⟨q - 1, p2, none, vs, [], nx, cp2, 0, 0, _, by omega, by go_num, HL.out, HO.out, HD.out, HT.out, by omega, HS.out⟩
        case measure => simp [intOf]; omega

end Go.Proofs.Ytcjkjenebnodbaa
