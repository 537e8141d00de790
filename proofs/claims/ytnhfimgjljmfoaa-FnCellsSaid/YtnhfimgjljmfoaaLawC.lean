/-
  The law FnCells answers true at all bytes.
-/
import Derived.Test.YtnhfimgjljmfoaaCapS
import Derived.Test.YtnhfimgjljmfoaaLawU
import Derived.Deep.Cut
namespace Go.Proofs.Ytnhfimgjljmfoaa
open Go.RowKit

/-- What is known while the law asks what was read: the code, the bytes, what they are read as. -/
structure StA (w0 : World) (a : Option Addr) (zs : List Int) (x : Option Addr) (ys : List Int) (bu : Nat) (q f p l t k v : Int) (s : ByteArray) (w : World) : Prop where
  rd : Reads w a zs
  rx : Reads w x ys
  cu : CelAt w bu q f p l t k v s
  g : Below w0.heap.size w0 w

theorem StA.step {w0 : World} {a : Option Addr} {zs : List Int} {x : Option Addr} {ys : List Int} {bu : Nat} {q f p l t k v : Int} {s : ByteArray} {w w' : World} (h : StA w0 a zs x ys bu q f p l t k v s w) (hb : Below w.heap.size w w') : StA w0 a zs x ys bu q f p l t k v s w' :=
  ⟨h.rd.below hb (Nat.le_refl _), h.rx.below hb (Nat.le_refl _), h.cu.below hb, h.g.trans (hb.mono h.g.size)⟩

theorem field32a (x y : Value) (w : World) : (Instr.field 32 (.agg #[x, y]) 0).run Try.prog w = .ok x w := by kernel_rfl
theorem field32b (x y : Value) (w : World) : (Instr.field 32 (.agg #[x, y]) 1).run Try.prog w = .ok y w := by kernel_rfl
theorem field28a (x0 x1 x2 x3 x4 x5 x6 x7 : Value) (w : World) : (Instr.field 28 (.agg #[x0, x1, x2, x3, x4, x5, x6, x7]) 0).run Try.prog w = .ok x0 w := by kernel_rfl

theorem cell_kept {w w' : World} (hb : Below w.heap.size w w') {p : Addr} {v : Value} (h : w.cell? p = some v) : w'.cell? p = some v := (hb.cell (World.block_lt_of_cell? w p h)).trans h
theorem st14n_keep {w0 : World} {b : Nat} {q : Int} {a : Option Addr} {zs : List Int} {w w' : World} (hb : Below w.heap.size w w') (h : w.cell? ⟨b, 0, none⟩ = some (.int .i64 q) ∧ Reads w a zs ∧ Below w0.heap.size w0 w) : w'.cell? ⟨b, 0, none⟩ = some (.int .i64 q) ∧ Reads w' a zs ∧ Below w0.heap.size w0 w' :=
  ⟨cell_kept hb h.1, h.2.1.below hb (Nat.le_refl _), h.2.2.trans (hb.mono h.2.2.size)⟩
theorem st14_keep {w0 : World} {b b' : Nat} {q x y z : Int} {a : Option Addr} {zs : List Int} {w w' : World} (hb : Below w.heap.size w w') (h : w.cell? ⟨b, 0, none⟩ = some (.int .i64 q) ∧ w.cell? ⟨b', 1, none⟩ = some (.int .i64 x) ∧ w.cell? ⟨b', 2, none⟩ = some (.int .i64 y) ∧ w.cell? ⟨b', 3, none⟩ = some (.int .i64 z) ∧ Reads w a zs ∧ Below w0.heap.size w0 w) :
    w'.cell? ⟨b, 0, none⟩ = some (.int .i64 q) ∧ w'.cell? ⟨b', 1, none⟩ = some (.int .i64 x) ∧ w'.cell? ⟨b', 2, none⟩ = some (.int .i64 y) ∧ w'.cell? ⟨b', 3, none⟩ = some (.int .i64 z) ∧ Reads w' a zs ∧ Below w0.heap.size w0 w' :=
  ⟨cell_kept hb h.1, cell_kept hb h.2.1, cell_kept hb h.2.2.1, cell_kept hb h.2.2.2.1, h.2.2.2.2.1.below hb (Nat.le_refl _), h.2.2.2.2.2.trans (hb.mono h.2.2.2.2.2.size)⟩

theorem st19_keep {w0 : World} {b b' : Nat} {q x y z : Int} {s : ByteArray} {w w' : World} (hb : Below w.heap.size w w') (h : w.cell? ⟨b, 0, none⟩ = some (.int .i64 x) ∧ w.cell? ⟨b, 1, none⟩ = some (.int .i64 y) ∧ w.cell? ⟨b, 2, none⟩ = some (.int .i64 z) ∧ w.cell? ⟨b, 3, none⟩ = some (.string s) ∧ w.cell? ⟨b', 0, none⟩ = some (.int .i64 q) ∧ Below w0.heap.size w0 w) :
    w'.cell? ⟨b, 0, none⟩ = some (.int .i64 x) ∧ w'.cell? ⟨b, 1, none⟩ = some (.int .i64 y) ∧ w'.cell? ⟨b, 2, none⟩ = some (.int .i64 z) ∧ w'.cell? ⟨b, 3, none⟩ = some (.string s) ∧ w'.cell? ⟨b', 0, none⟩ = some (.int .i64 q) ∧ Below w0.heap.size w0 w' :=
  ⟨cell_kept hb h.1, cell_kept hb h.2.1, cell_kept hb h.2.2.1, cell_kept hb h.2.2.2.1, cell_kept hb h.2.2.2.2.1, h.2.2.2.2.2.trans (hb.mono h.2.2.2.2.2.size)⟩

theorem stA_keep {w0 : World} {a : Option Addr} {zs : List Int} {x : Option Addr} {ys : List Int} {bu : Nat} {q f p l t k v : Int} {s : ByteArray} {w w' : World} (hb : Below w.heap.size w w') (h : w.cell? ⟨bu, 0, none⟩ = some (.int .i64 q) ∧ StA w0 a zs x ys bu q f p l t k v s w) : w'.cell? ⟨bu, 0, none⟩ = some (.int .i64 q) ∧ StA w0 a zs x ys bu q f p l t k v s w' :=
  ⟨(h.2.step hb).cu.c0, h.2.step hb⟩
theorem stA_rx {w0 : World} {a : Option Addr} {zs : List Int} {x : Option Addr} {ys : List Int} {bu : Nat} {q f p l t k v : Int} {s : ByteArray} {w : World} (h : w.cell? ⟨bu, 0, none⟩ = some (.int .i64 q) ∧ StA w0 a zs x ys bu q f p l t k v s w) : Reads w x ys := h.2.rx

set_option maxRecDepth 100000 in
set_option maxHeartbeats 20000000 in
theorem lawCells_fits (a : Option Addr) (n c : Nat) (zs : List Int) (w : World) (hn : zs.length = n) (hs : n ≤ 1048576) (ha : Reads w a zs) (hz : ∀ z ∈ zs, 0 ≤ z ∧ z ≤ 255) :
    Calls Try.prog 3 #[.slice a n c] w fun e w' => e = .returned (.bool true) ∧ Below w.heap.size w w' := by
  have HN : Hid (zs.length = n) := hn
  clear hn
  have hd : decide ((1048576 : Int) < (n : Int)) = false := by simp; omega
  have HD : Hid (decide ((1048576 : Int) < (n : Int)) = false) := hd
  clear hd
  have kf0 := field32a
  have kf1 := field32b
  have kf2 := field28a
  go_enter Try.func3, Try.ntmps3
  go_wp2_with fail
  refine (lwBig_any a n c _).mono ?_
  rintro e w ⟨rfl, rfl⟩
  rw [HD.out]
  go_wp2_with fail
  refine (drawUnpackCell_any a n c zs _ ha HN.out hs hz).mono ?_
  rintro e w1 ⟨x, m, d, ys, rfl, hlen, hmd, hm14, y1, hrg, g1⟩
  have HL : Hid (List.length ys = m) := hlen
  clear hlen
  go_wp2_with fail
  refine (implUnpackCell_any x ys m d _ HL.out hmd y1.reads hrg).mono ?_
  rintro e w2 ⟨rfl, g2⟩
  obtain ⟨q, f, p, l, t, k, v, s, hr⟩ := celV_form (unp ys)
  have HU : Hid (unp ys = Cel.mk q f p l t k v s) := hr
  clear hr
  rw [HU.out]
  simp only [celV]
  go_upto_region 5 with (fail)
  generalize hW : w2.alloc (.cells #[.int .i64 q, .int .i64 f, .int .i64 p, .int .i64 l, .int .i64 t, .int .i64 k, .int .i64 v, .string s] 28) = W
  have hA : StA w a zs x ys w2.heap.size q f p l t k v s W := by
    rw [← hW]
    have rd := (ha.below g1 (Nat.le_refl _)).below g2 (Nat.le_refl _)
    have rx := y1.reads.below g2 (Nat.le_refl _)
    have gg := g1.trans (g2.mono g1.size)
    exact ⟨rd.below (B := w2.heap.size) (by go_grown) (Nat.le_refl _), rx.below (B := w2.heap.size) (by go_grown) (Nat.le_refl _), ⟨by simp [go_sem], by simp [go_sem], by simp [go_sem], by simp [go_sem], by simp [go_sem], by simp [go_sem], by simp [go_sem], by simp [go_sem]⟩, gg.alloc gg.size _⟩
  generalize w2.heap.size = bu at hA
  clear hW g1 g2 y1 ha w1 w2
  go_cut [29] from 13 (fun s29 wc => s29 = .bool false ∧ StA w a zs x ys bu q f p l t k v s wc)
  case first =>
    by_cases hq : q = 0
    · subst hq
      obtain ⟨x0, x1, x2, x3, x4, x5, x6, x7⟩ := hA.cu
      go_quiet (fail)
      go_wp2_with fail
      go_meet
      case rel => exact ⟨rfl, hA.step (below_draws (Below.refl _ _) _)⟩
    · have dq : (q != 0) = true := by simpa using hq
      clear hq
      have hA0 := hA.step (w' := W.drew) (Below.refl _ _).drew
      have h00 := hA0.cu.c0
      go_region_held (fun V => V.cell? ⟨bu, 0, none⟩ = some (.int .i64 q) ∧ StA w a zs x ys bu q f p l t k v s V) (first | exact stA_keep hb (by assumption) | exact ⟨h00, hA0⟩)
        (first | (go_at_call 13; refine (specUnpackCell_any x ys m d _ HL.out hmd ?_ hrg).mono ?_; exact stA_rx (by assumption); rintro e w' ⟨rfl, hb⟩; rw [HU.out]; simp only [celV]))
      have hA1 : w'.cell? ⟨bu, 0, none⟩ = some (.int .i64 q) ∧ StA w a zs x ys bu q f p l t k v s w' := by assumption
      clear hA0 h00 hb
      go_wp2_with fail
      go_meet
      case rel => exact ⟨rfl, hA1.2⟩
  case rest =>
    obtain ⟨rfl, hA⟩ := hcut
    go_upto_region 7 with (fail)
    go_cut [48] from 13 (fun s48 wd => s48 = .bool false ∧ StA w a zs x ys bu q f p l t k v s wd)
    case first =>
      by_cases hq : q = 0
      · subst hq
        by_cases hf : f = 1
        · subst hf
          have hB : stubBytes p l = ys := unp_stub HU.out
          have HB : Hid (stubBytes p l = ys) := hB
          clear hB
          obtain ⟨x0, x1, x2, x3, x4, x5, x6, x7⟩ := hA.cu
          go_wp2_with fail
          refine (implPackStub_any p l _).mono ?_
          rintro e w3 ⟨a3, c3, rfl, g3, y3⟩
          rw [HB.out, HL.out]
          rw [HB.out] at y3
          have hA3 := hA.step g3
          clear x0 x1 x2 x3 x4 x5 x6 x7 g3
          go_wp2_with fail
          refine (lwSame_same a3 x m c3 d ys _ HL.out y3.reads hA3.rx).mono ?_
          rintro e w3 ⟨rfl, rfl⟩
          go_wp2_with fail
          go_meet
          case rel => exact ⟨rfl, hA3⟩
        · have df : (f == 1) = false := by simpa using hf
          obtain ⟨x0, x1, x2, x3, x4, x5, x6, x7⟩ := hA.cu
          clear hf
          go_wp2_with fail
          go_meet
          case rel => exact ⟨rfl, hA⟩
      · have dq : (q == 0) = false := by simpa using hq
        obtain ⟨x0, x1, x2, x3, x4, x5, x6, x7⟩ := hA.cu
        clear hq
        go_wp2_with fail
        go_meet
        case rel => exact ⟨rfl, hA⟩
    case rest =>
      clear hA
      obtain ⟨rfl, hA⟩ := hcut
      go_upto_region 9 with (fail)
      go_cut [67] from 13 (fun s67 we => s67 = .bool false ∧ StA w a zs x ys bu q f p l t k v s we)
      case first =>
        by_cases hq : q = 0
        · subst hq
          by_cases hf : f = 1
          · subst hf
            obtain ⟨x0, x1, x2, x3, x4, x5, x6, x7⟩ := hA.cu
            go_wp2_with fail
            go_meet
            case rel => exact ⟨rfl, hA⟩
          · have df : (f != 1) = true := by simpa using hf
            have hB : packBytes f t k v s = ys := unp_row HU.out hf hrg
            have HB : Hid (packBytes f t k v s = ys) := hB
            clear hB hf
            have hsz : s.size ≤ maxLen := by
              have h1 := unp_size ys
              rw [HU.out] at h1
              have h2 := HL.out
              have h3 : s.size ≤ ys.length := h1
              unfold maxLen; omega
            obtain ⟨x0, x1, x2, x3, x4, x5, x6, x7⟩ := hA.cu
            go_wp2_with fail
            refine (implPackRow_any f t k v s _ hsz).mono ?_
            rintro e w3 ⟨a3, c3, rfl, g3, y3⟩
            rw [HB.out, HL.out]
            rw [HB.out] at y3
            have hA3 := hA.step g3
            clear x0 x1 x2 x3 x4 x5 x6 x7 g3
            go_wp2_with fail
            refine (lwSame_same a3 x m c3 d ys _ HL.out y3.reads hA3.rx).mono ?_
            rintro e w3 ⟨rfl, rfl⟩
            go_wp2_with fail
            go_meet
            case rel => exact ⟨rfl, hA3⟩
        · have dq : (q == 0) = false := by simpa using hq
          obtain ⟨x0, x1, x2, x3, x4, x5, x6, x7⟩ := hA.cu
          clear hq
          go_wp2_with fail
          go_meet
          case rel => exact ⟨rfl, hA⟩
      case rest =>
        clear hA
        obtain ⟨rfl, hA⟩ := hcut
        have rd := hA.rd
        have g := hA.g
        clear hA
        clear HU
        go_wp2_with fail
        refine (drawPackStub_any a n c zs _ rd HN.out hs hz).mono ?_
        rintro e w3 ⟨⟨P, L, rfl⟩, g3⟩
        have rd := rd.below g3 (Nat.le_refl _)
        have g : Below w.heap.size w w3 := g.trans (g3.mono g.size)
        clear g3
        go_wp2_with fail
        refine (implPackStub_cap P L _).mono ?_
        rintro e w4 ⟨a4, c4, rfl, hc4, g4, y4⟩
        have rd := rd.below g4 (Nat.le_refl _)
        have g : Below w.heap.size w w4 := g.trans (g4.mono g.size)
        clear g4
        obtain ⟨S4, hS4⟩ : ∃ S4, S4 = stubBytes P L := ⟨_, rfl⟩
        obtain ⟨N4, hN4⟩ : ∃ N4, N4 = S4.length := ⟨_, rfl⟩
        rw [← hS4] at hc4 y4
        rw [← hS4]
        rw [← hN4] at hc4
        rw [← hN4]
        have HS4 : Hid (S4 = stubBytes P L) := hS4
        have HN4 : Hid (N4 = S4.length) := hN4
        clear hS4 hN4
        go_wp2_with fail
        refine (implUnpackCell_any a4 S4 N4 c4 _ HN4.out.symm hc4 (y4.reads.below (B := w4.heap.size) (by go_grown) (Nat.le_refl _)) (by rw [HS4.out]; exact stub_range P L)).mono ?_
        rintro e w5 ⟨rfl, g5⟩
        have r5 : ResAt w5 w4.heap.size (stubCode P L) a4 N4 c4 := ResAt.below ⟨by simp [go_sem], by simp [go_sem]⟩ g5
        have rd := (rd.below (B := w4.heap.size) (by go_grown) (Nat.le_refl _)).below g5 (Nat.le_refl _)
        have hgz := g.size
        have g : Below w.heap.size w w5 := g.trans (Below.trans (by go_grown) (g5.mono (by simp; omega)))
        clear g5 hgz y4 hc4
        obtain ⟨q1, f1, p1, l1, t1, k1, v1, s1, hr⟩ := celV_form (unp S4)
        have HU1 : Hid (unp S4 = Cel.mk q1 f1 p1 l1 t1 k1 v1 s1) := hr
        clear hr
        rw [HU1.out]
        simp only [celV]
        have hlt5 : w4.heap.size < w5.heap.size := World.block_lt_of_cell? w5 _ r5.c0
        go_upto_region 14 with (fail)
        generalize hW : w5.alloc (.cells #[.int .i64 q1, .int .i64 f1, .int .i64 p1, .int .i64 l1, .int .i64 t1, .int .i64 k1, .int .i64 v1, .string s1] 28) = W
        have rdW : Reads W a zs := by rw [← hW]; exact rd.below (B := w5.heap.size) (by go_grown) (Nat.le_refl _)
        have rW : ResAt W w4.heap.size (stubCode P L) a4 N4 c4 := by rw [← hW]; exact r5.below (by go_grown)
        have cW : CelAt W w5.heap.size q1 f1 p1 l1 t1 k1 v1 s1 := by rw [← hW]; exact ⟨by simp [go_sem], by simp [go_sem], by simp [go_sem], by simp [go_sem], by simp [go_sem], by simp [go_sem], by simp [go_sem], by simp [go_sem]⟩
        have gW : Below w.heap.size w W := by rw [← hW]; exact g.alloc g.size _
        generalize w4.heap.size = b7 at rW
        generalize w5.heap.size = b8 at cW
        clear hW rd r5 g hlt5
        go_cut [107] from 13 (fun s107 wf => s107 = .bool false ∧ Reads wf a zs ∧ Below w.heap.size w wf)
        case first =>
          have hx := specPackStub_any P L
          cases hsb : stubB P L
          · have e1 : stubCode P L = 3 := by simp [stubCode, hsb]
            rw [e1] at rW
            have HC : Hid (stubCode P L = 3) := e1
            clear e1 hx HU1
            obtain ⟨x0, x1⟩ := rW
            refine wp_region_held_drew (S := fun V => V.cell? ⟨b7, 0, none⟩ = some (.int .i64 3) ∧ Reads V a zs ∧ Below w.heap.size w V) (by kernel_rfl) ⟨x0, rdW.below (B := W.heap.size) (Below.refl _ _).drew (Nat.le_refl _), gW.drew⟩ (fun hHeld => ?_)
            refine wpAnyH_take (i := 0) (v := .pointer (some ⟨b7, 0, none⟩)) rfl (by kernel_rfl) (by kernel_rfl) (by kernel_rfl) (fun _ _ _ h => h) (Or.inl ⟨by kernel_rfl, fun u hSw => by (try dsimp only at hSw); go_simp; try with_reducible rfl⟩) hHeld ?_
            try simp only [List.getElem_toArray]
            try simp only [List.getElem_cons_succ]
            try simp only [List.getElem_cons_zero]
            try simp only [Act.put]
            try simp only [List.setIfInBounds_toArray]
            try simp only [List.set]
            refine wpAnyH_take (i := 1) (v := .int .i64 3) rfl (by kernel_rfl) (by kernel_rfl) (by kernel_rfl) (fun _ _ _ h => h) (Or.inl ⟨by kernel_rfl, fun u hSw => by (try dsimp only at hSw); go_simp; try with_reducible rfl⟩) hHeld ?_
            try simp only [List.getElem_toArray]
            try simp only [List.getElem_cons_succ]
            try simp only [List.getElem_cons_zero]
            try simp only [Act.put]
            try simp only [List.setIfInBounds_toArray]
            try simp only [List.set]
            refine wpAnyH_take (i := 2) (v := .int .i64 P) rfl (by kernel_rfl) (by kernel_rfl) (by kernel_rfl) (fun _ _ _ h => h) (Or.inl ⟨by kernel_rfl, fun u hSw => by (try dsimp only at hSw); go_simp; try with_reducible rfl⟩) hHeld ?_
            try simp only [List.getElem_toArray]
            try simp only [List.getElem_cons_succ]
            try simp only [List.getElem_cons_zero]
            try simp only [Act.put]
            try simp only [List.setIfInBounds_toArray]
            try simp only [List.set]
            refine wpAnyH_take (i := 3) (v := .int .i64 L) rfl (by kernel_rfl) (by kernel_rfl) (by kernel_rfl) (fun _ _ _ h => h) (Or.inl ⟨by kernel_rfl, fun u hSw => by (try dsimp only at hSw); go_simp; try with_reducible rfl⟩) hHeld ?_
            try simp only [List.getElem_toArray]
            try simp only [List.getElem_cons_succ]
            try simp only [List.getElem_cons_zero]
            try simp only [Act.put]
            try simp only [List.setIfInBounds_toArray]
            try simp only [List.set]
            refine wpAnyH_ready (rs := [4]) (by kernel_rfl) (by simp) ?_
            refine AllReadyH.cons rfl (fun K hK => ?_) AllReadyH.nil
            go_simp
            go_wp2_with (go_at_call 18; refine (specPackStub_any P L _).mono ?_; rintro e w' ⟨a6, c6, rfl, hb, _⟩; rw [HC.out])
            refine hK.out _ _ (st14n_keep hb hHeld) (fun hHeld => ?_)
            clear hK K
            refine wpAnyH_take (i := 5) (v := .int .i64 3) rfl (by kernel_rfl) (by kernel_rfl) (by kernel_rfl) (fun _ _ _ h => h) (Or.inl ⟨by kernel_rfl, fun u hSw => by (try dsimp only at hSw); go_simp; try with_reducible rfl⟩) hHeld ?_
            try simp only [List.getElem_toArray]
            try simp only [List.getElem_cons_succ]
            try simp only [List.getElem_cons_zero]
            try simp only [Act.put]
            try simp only [List.setIfInBounds_toArray]
            try simp only [List.set]
            refine wpAnyH_take (i := 6) (v := .bool false) rfl (by kernel_rfl) (by kernel_rfl) (by kernel_rfl) (fun _ _ _ h => h) (Or.inl ⟨by kernel_rfl, fun u hSw => by (try dsimp only at hSw); go_simp; try with_reducible rfl⟩) hHeld ?_
            try simp only [List.getElem_toArray]
            try simp only [List.getElem_cons_succ]
            try simp only [List.getElem_cons_zero]
            try simp only [Act.put]
            try simp only [List.setIfInBounds_toArray]
            try simp only [List.set]
            refine wpAnyH_take (i := 7) (v := .bool false) rfl (by kernel_rfl) (by kernel_rfl) (by kernel_rfl) (fun _ _ _ h => h) (Or.inl ⟨by kernel_rfl, fun u hSw => by (try dsimp only at hSw); go_simp; try with_reducible rfl⟩) hHeld ?_
            try simp only [List.getElem_toArray]
            try simp only [List.getElem_cons_succ]
            try simp only [List.getElem_cons_zero]
            try simp only [Act.put]
            try simp only [List.setIfInBounds_toArray]
            try simp only [List.set]
            refine wpAnyH_take (i := 8) (v := .pointer (some ⟨b7, 0, none⟩)) rfl (by kernel_rfl) (by kernel_rfl) (by kernel_rfl) (fun _ _ _ h => h) (Or.inl ⟨by kernel_rfl, fun u hSw => by (try dsimp only at hSw); go_simp; try with_reducible rfl⟩) hHeld ?_
            try simp only [List.getElem_toArray]
            try simp only [List.getElem_cons_succ]
            try simp only [List.getElem_cons_zero]
            try simp only [Act.put]
            try simp only [List.setIfInBounds_toArray]
            try simp only [List.set]
            refine wpAnyH_take (i := 9) (v := .int .i64 3) rfl (by kernel_rfl) (by kernel_rfl) (by kernel_rfl) (fun _ _ _ h => h) (Or.inl ⟨by kernel_rfl, fun u hSw => by (try dsimp only at hSw); go_simp; try with_reducible rfl⟩) hHeld ?_
            try simp only [List.getElem_toArray]
            try simp only [List.getElem_cons_succ]
            try simp only [List.getElem_cons_zero]
            try simp only [Act.put]
            try simp only [List.setIfInBounds_toArray]
            try simp only [List.set]
            refine wpAnyH_take (i := 10) (v := .bool false) rfl (by kernel_rfl) (by kernel_rfl) (by kernel_rfl) (fun _ _ _ h => h) (Or.inl ⟨by kernel_rfl, fun u hSw => by (try dsimp only at hSw); go_simp; try with_reducible rfl⟩) hHeld ?_
            try simp only [List.getElem_toArray]
            try simp only [List.getElem_cons_succ]
            try simp only [List.getElem_cons_zero]
            try simp only [Act.put]
            try simp only [List.setIfInBounds_toArray]
            try simp only [List.set]
            refine wpAnyH_take (i := 11) (v := .bool false) rfl (by kernel_rfl) (by kernel_rfl) (by kernel_rfl) (fun _ _ _ h => h) (Or.inl ⟨by kernel_rfl, fun u hSw => by (try dsimp only at hSw); go_simp; try with_reducible rfl⟩) hHeld ?_
            try simp only [List.getElem_toArray]
            try simp only [List.getElem_cons_succ]
            try simp only [List.getElem_cons_zero]
            try simp only [Act.put]
            try simp only [List.setIfInBounds_toArray]
            try simp only [List.set]
            refine wpAnyH_take (i := 12) (v := undef) rfl (by kernel_rfl) (by kernel_rfl) (by kernel_rfl) (fun _ _ _ h => h) (Or.inr ⟨by kernel_rfl, rfl⟩) hHeld ?_
            try simp only [List.getElem_toArray]
            try simp only [List.getElem_cons_succ]
            try simp only [List.getElem_cons_zero]
            try simp only [Act.put]
            try simp only [List.setIfInBounds_toArray]
            try simp only [List.set]
            refine wpAnyH_take (i := 13) (v := undef) rfl (by kernel_rfl) (by kernel_rfl) (by kernel_rfl) (fun _ _ _ h => h) (Or.inr ⟨by kernel_rfl, rfl⟩) hHeld ?_
            try simp only [List.getElem_toArray]
            try simp only [List.getElem_cons_succ]
            try simp only [List.getElem_cons_zero]
            try simp only [Act.put]
            try simp only [List.setIfInBounds_toArray]
            try simp only [List.set]
            refine wpAnyH_take (i := 14) (v := undef) rfl (by kernel_rfl) (by kernel_rfl) (by kernel_rfl) (fun _ _ _ h => h) (Or.inr ⟨by kernel_rfl, rfl⟩) hHeld ?_
            try simp only [List.getElem_toArray]
            try simp only [List.getElem_cons_succ]
            try simp only [List.getElem_cons_zero]
            try simp only [Act.put]
            try simp only [List.setIfInBounds_toArray]
            try simp only [List.set]
            refine wpAnyH_take (i := 15) (v := undef) rfl (by kernel_rfl) (by kernel_rfl) (by kernel_rfl) (fun _ _ _ h => h) (Or.inr ⟨by kernel_rfl, rfl⟩) hHeld ?_
            try simp only [List.getElem_toArray]
            try simp only [List.getElem_cons_succ]
            try simp only [List.getElem_cons_zero]
            try simp only [Act.put]
            try simp only [List.setIfInBounds_toArray]
            try simp only [List.set]
            refine wpAnyH_take (i := 16) (v := undef) rfl (by kernel_rfl) (by kernel_rfl) (by kernel_rfl) (fun _ _ _ h => h) (Or.inr ⟨by kernel_rfl, rfl⟩) hHeld ?_
            try simp only [List.getElem_toArray]
            try simp only [List.getElem_cons_succ]
            try simp only [List.getElem_cons_zero]
            try simp only [Act.put]
            try simp only [List.setIfInBounds_toArray]
            try simp only [List.set]
            refine wpAnyH_take (i := 17) (v := undef) rfl (by kernel_rfl) (by kernel_rfl) (by kernel_rfl) (fun _ _ _ h => h) (Or.inr ⟨by kernel_rfl, rfl⟩) hHeld ?_
            try simp only [List.getElem_toArray]
            try simp only [List.getElem_cons_succ]
            try simp only [List.getElem_cons_zero]
            try simp only [Act.put]
            try simp only [List.setIfInBounds_toArray]
            try simp only [List.set]
            refine wpAnyH_take (i := 18) (v := undef) rfl (by kernel_rfl) (by kernel_rfl) (by kernel_rfl) (fun _ _ _ h => h) (Or.inr ⟨by kernel_rfl, rfl⟩) hHeld ?_
            try simp only [List.getElem_toArray]
            try simp only [List.getElem_cons_succ]
            try simp only [List.getElem_cons_zero]
            try simp only [Act.put]
            try simp only [List.setIfInBounds_toArray]
            try simp only [List.set]
            refine wpAnyH_take (i := 19) (v := undef) rfl (by kernel_rfl) (by kernel_rfl) (by kernel_rfl) (fun _ _ _ h => h) (Or.inr ⟨by kernel_rfl, rfl⟩) hHeld ?_
            try simp only [List.getElem_toArray]
            try simp only [List.getElem_cons_succ]
            try simp only [List.getElem_cons_zero]
            try simp only [Act.put]
            try simp only [List.setIfInBounds_toArray]
            try simp only [List.set]
            refine wpAnyH_take (i := 20) (v := undef) rfl (by kernel_rfl) (by kernel_rfl) (by kernel_rfl) (fun _ _ _ h => h) (Or.inr ⟨by kernel_rfl, rfl⟩) hHeld ?_
            try simp only [List.getElem_toArray]
            try simp only [List.getElem_cons_succ]
            try simp only [List.getElem_cons_zero]
            try simp only [Act.put]
            try simp only [List.setIfInBounds_toArray]
            try simp only [List.set]
            refine wpAnyH_take (i := 21) (v := undef) rfl (by kernel_rfl) (by kernel_rfl) (by kernel_rfl) (fun _ _ _ h => h) (Or.inr ⟨by kernel_rfl, rfl⟩) hHeld ?_
            try simp only [List.getElem_toArray]
            try simp only [List.getElem_cons_succ]
            try simp only [List.getElem_cons_zero]
            try simp only [Act.put]
            try simp only [List.setIfInBounds_toArray]
            try simp only [List.set]
            refine wpAnyH_take (i := 22) (v := undef) rfl (by kernel_rfl) (by kernel_rfl) (by kernel_rfl) (fun _ _ _ h => h) (Or.inr ⟨by kernel_rfl, rfl⟩) hHeld ?_
            try simp only [List.getElem_toArray]
            try simp only [List.getElem_cons_succ]
            try simp only [List.getElem_cons_zero]
            try simp only [Act.put]
            try simp only [List.setIfInBounds_toArray]
            try simp only [List.set]
            refine wpAnyH_take (i := 23) (v := undef) rfl (by kernel_rfl) (by kernel_rfl) (by kernel_rfl) (fun _ _ _ h => h) (Or.inr ⟨by kernel_rfl, rfl⟩) hHeld ?_
            try simp only [List.getElem_toArray]
            try simp only [List.getElem_cons_succ]
            try simp only [List.getElem_cons_zero]
            try simp only [Act.put]
            try simp only [List.setIfInBounds_toArray]
            try simp only [List.set]
            refine wpAnyH_take (i := 24) (v := undef) rfl (by kernel_rfl) (by kernel_rfl) (by kernel_rfl) (fun _ _ _ h => h) (Or.inr ⟨by kernel_rfl, rfl⟩) hHeld ?_
            try simp only [List.getElem_toArray]
            try simp only [List.getElem_cons_succ]
            try simp only [List.getElem_cons_zero]
            try simp only [Act.put]
            try simp only [List.setIfInBounds_toArray]
            try simp only [List.set]
            refine wpAnyH_take (i := 25) (v := undef) rfl (by kernel_rfl) (by kernel_rfl) (by kernel_rfl) (fun _ _ _ h => h) (Or.inr ⟨by kernel_rfl, rfl⟩) hHeld ?_
            try simp only [List.getElem_toArray]
            try simp only [List.getElem_cons_succ]
            try simp only [List.getElem_cons_zero]
            try simp only [Act.put]
            try simp only [List.setIfInBounds_toArray]
            try simp only [List.set]
            refine wpAnyH_take (i := 26) (v := undef) rfl (by kernel_rfl) (by kernel_rfl) (by kernel_rfl) (fun _ _ _ h => h) (Or.inr ⟨by kernel_rfl, rfl⟩) hHeld ?_
            try simp only [List.getElem_toArray]
            try simp only [List.getElem_cons_succ]
            try simp only [List.getElem_cons_zero]
            try simp only [Act.put]
            try simp only [List.setIfInBounds_toArray]
            try simp only [List.set]
            refine wpAnyH_take (i := 27) (v := .bool false) rfl (by kernel_rfl) (by kernel_rfl) (by kernel_rfl) (fun _ _ _ h => h) (Or.inl ⟨by kernel_rfl, fun u hSw => by (try dsimp only at hSw); go_simp; try with_reducible rfl⟩) hHeld ?_
            try simp only [List.getElem_toArray]
            try simp only [List.getElem_cons_succ]
            try simp only [List.getElem_cons_zero]
            try simp only [Act.put]
            try simp only [List.setIfInBounds_toArray]
            try simp only [List.set]
            refine wpAnyH_take (i := 28) (v := .bool false) rfl (by kernel_rfl) (by kernel_rfl) (by kernel_rfl) (fun _ _ _ h => h) (Or.inl ⟨by kernel_rfl, fun u hSw => by (try dsimp only at hSw); go_simp; try with_reducible rfl⟩) hHeld ?_
            try simp only [List.getElem_toArray]
            try simp only [List.getElem_cons_succ]
            try simp only [List.getElem_cons_zero]
            try simp only [Act.put]
            try simp only [List.setIfInBounds_toArray]
            try simp only [List.set]
            refine wpAnyH_done (by kernel_rfl) ?_ _
            go_wp2_with fail
            go_meet
            case rel => exact ⟨rfl, hHeld.2.1, hHeld.2.2⟩
          · have e1 : stubCode P L = 0 := by simp [stubCode, hsb]
            have e2 := unp_of_stub hsb
            rw [← HS4.out, HU1.out] at e2
            simp only [Cel.mk.injEq] at e2
            obtain ⟨rfl, rfl, rfl, rfl, _⟩ := e2
            rw [e1] at rW
            have HC : Hid (stubCode p1 l1 = 0) := e1
            clear e1 hx HU1
            go_region_held (fun V => V.cell? ⟨b7, 0, none⟩ = some (.int .i64 0) ∧ V.cell? ⟨b8, 1, none⟩ = some (.int .i64 1) ∧ V.cell? ⟨b8, 2, none⟩ = some (.int .i64 p1) ∧ V.cell? ⟨b8, 3, none⟩ = some (.int .i64 l1) ∧ Reads V a zs ∧ Below w.heap.size w V)
              (first | exact st14_keep hb (by assumption) | exact ⟨rW.c0, cW.c1, cW.c2, cW.c3, rdW.below (B := W.heap.size) (Below.refl _ _).drew (Nat.le_refl _), gW.drew⟩)
              (first | (go_at_call 18; refine (specPackStub_any p1 l1 _).mono ?_; rintro e w' ⟨a6, c6, rfl, hb, _⟩; rw [HC.out]))
            have hE : w'.cell? ⟨b7, 0, none⟩ = some (.int .i64 0) ∧ w'.cell? ⟨b8, 1, none⟩ = some (.int .i64 1) ∧ w'.cell? ⟨b8, 2, none⟩ = some (.int .i64 p1) ∧ w'.cell? ⟨b8, 3, none⟩ = some (.int .i64 l1) ∧ Reads w' a zs ∧ Below w.heap.size w w' := by assumption
            clear hb
            go_wp2_with fail
            go_meet
            case rel => exact ⟨rfl, hE.2.2.2.2.1, hE.2.2.2.2.2⟩
        case rest =>
          obtain ⟨rfl, rd, g⟩ := hcut
          clear rdW rW cW gW
          go_wp2_with fail
          refine (drawPackRow_any a n c zs _ rd HN.out hs hz).mono ?_
          rintro e w6 ⟨⟨F, T, Y, V, S, rfl, hS9⟩, g6⟩
          have g : Below w.heap.size w w6 := g.trans (g6.mono g.size)
          have hsz : S.size ≤ maxLen := by unfold maxLen; omega
          clear g6 rd
          go_wp2_with fail
          refine (implPackRow_cap F T Y V S _ hsz).mono ?_
          rintro e w7 ⟨a7, c7, rfl, hc7, g7, y7⟩
          have r7 : RowAt w7 w6.heap.size T Y V S := rowAt_below g7 (by simp) ⟨by simp [go_sem], by simp [go_sem], by simp [go_sem], by simp [go_sem]⟩
          have hgz := g.size
          have g : Below w.heap.size w w7 := g.trans (Below.trans (by go_grown) (g7.mono (by simp; omega)))
          clear g7 hgz
          have hrg7 := pack_range F T Y V S
          obtain ⟨Z, hZ⟩ : ∃ Z, Z = packBytes F T Y V S := ⟨_, rfl⟩
          obtain ⟨N, hN⟩ : ∃ N, N = Z.length := ⟨_, rfl⟩
          obtain ⟨C, hC⟩ : ∃ C, C = packCode F T Y V S := ⟨_, rfl⟩
          rw [← hZ] at hc7 y7 hrg7
          rw [← hZ, ← hC]
          rw [← hN] at hc7
          rw [← hN]
          have HZ : Hid (Z = packBytes F T Y V S) := hZ
          have HN7 : Hid (N = Z.length) := hN
          have HC7 : Hid (C = packCode F T Y V S) := hC
          clear hZ hN hC
          go_upto_region 18 with (fail)
          generalize hW : w7.alloc (.cells #[.int .i64 C, .slice a7 N c7] 32) = W
          have rW : RowAt W w6.heap.size T Y V S := by rw [← hW]; exact rowAt_below (B := w7.heap.size) (by go_grown) (World.block_lt_of_cell? w7 _ r7.c0) r7
          have sW : ResAt W w7.heap.size C a7 N c7 := by rw [← hW]; exact ⟨by simp [go_sem], by simp [go_sem]⟩
          have yW : Reads W a7 Z := by rw [← hW]; exact y7.reads.below (B := w7.heap.size) (by go_grown) (Nat.le_refl _)
          have gW : Below w.heap.size w W := by rw [← hW]; exact g.alloc g.size _
          generalize w6.heap.size = b10 at rW
          generalize w7.heap.size = b11 at sW
          clear hW r7 y7 g
          by_cases hq : C = 0
          · have hU : unp Z = ⟨0, F, 0, 0, T, Y, V, S⟩ := by rw [HZ.out]; exact unp_of_row (by rw [← HC7.out]; exact hq)
            have HU7 : Hid (unp Z = ⟨0, F, 0, 0, T, Y, V, S⟩) := hU
            have hl7 : (N : Int) = 6 + (S.size : Int) := by
              have h1 : Z = cellBytes F T Y V S := by rw [HZ.out, packBytes, if_pos (by rw [← HC7.out]; exact hq)]
              rw [HN7.out, h1, cellBytes_length]; omega
            have dl : ((N : Int) == 6 + (S.size : Int)) = true := beq_iff_eq.2 hl7
            clear hU hl7
            subst hq
            obtain ⟨s0, s1⟩ := sW
            go_wp2_with fail
            refine (implUnpackCell_any a7 Z N c7 _ HN7.out.symm hc7 yW hrg7).mono ?_
            rintro e w8 ⟨rfl, g8⟩
            rw [HU7.out]
            simp only [celV]
            have g : Below w.heap.size w w8 := gW.trans (g8.mono gW.size)
            have r8 : RowAt w8 b10 T Y V S := rowAt_below g8 (World.block_lt_of_cell? W _ rW.c0) rW
            have s8 : w8.cell? ⟨b11, 1, none⟩ = some (.slice a7 N c7) := cell_kept g8 s1
            clear g8 gW rW s0 s1 yW hrg7 hc7
            go_upto_region 21 with (fail)
            generalize hX : w8.alloc (.cells #[.int .i64 0, .int .i64 F, .int .i64 0, .int .i64 0, .int .i64 T, .int .i64 Y, .int .i64 V, .string S] 28) = X
            have hgX : Below w8.heap.size w8 X := by rw [← hX]; go_grown
            have z0 : X.cell? ⟨w8.heap.size, 0, none⟩ = some (.int .i64 0) := by rw [← hX]; simp [go_sem]
            have z1 : X.cell? ⟨w8.heap.size, 1, none⟩ = some (.int .i64 F) := by rw [← hX]; simp [go_sem]
            have z4 : X.cell? ⟨w8.heap.size, 4, none⟩ = some (.int .i64 T) := by rw [← hX]; simp [go_sem]
            have z5 : X.cell? ⟨w8.heap.size, 5, none⟩ = some (.int .i64 Y) := by rw [← hX]; simp [go_sem]
            have z6 : X.cell? ⟨w8.heap.size, 6, none⟩ = some (.int .i64 V) := by rw [← hX]; simp [go_sem]
            have z7 : X.cell? ⟨w8.heap.size, 7, none⟩ = some (.string S) := by rw [← hX]; simp [go_sem]
            obtain ⟨y0, y1, y2, y3⟩ : RowAt X b10 T Y V S := rowAt_below hgX (World.block_lt_of_cell? w8 _ r8.c0) r8
            have y4 := cell_kept hgX s8
            have HG : Hid (Below w.heap.size w X) := g.trans (hgX.mono g.size)
            generalize w8.heap.size = b12 at z0 z1 z4 z5 z6 z7
            clear hX hgX g r8 s8
            go_wp2_with fail
            go_ret
            exact ⟨by simp, HG.out⟩
          · have dq : (C != 0) = true := by simpa using hq
            have HQ : Hid (packCode F T Y V S = C) := HC7.out.symm
            clear hq
            obtain ⟨s0, s1⟩ := sW
            go_wp2_with fail
            obtain ⟨x0, x1, x2, x3⟩ := rW
            go_region_held (fun U => U.cell? ⟨b10, 0, none⟩ = some (.int .i64 T) ∧ U.cell? ⟨b10, 1, none⟩ = some (.int .i64 Y) ∧ U.cell? ⟨b10, 2, none⟩ = some (.int .i64 V) ∧ U.cell? ⟨b10, 3, none⟩ = some (.string S) ∧ U.cell? ⟨b11, 0, none⟩ = some (.int .i64 C) ∧ Below w.heap.size w U)
              (first | exact st19_keep hb (by assumption) | exact ⟨x0, x1, x2, x3, s0, gW.drew⟩)
              (first | (go_at_call 20; refine (specPackRow_any F T Y V S _ hsz).mono ?_; rintro e w' ⟨a9, c9, rfl, hb, _⟩; rw [HQ.out]))
            have hE : w'.cell? ⟨b10, 0, none⟩ = some (.int .i64 T) ∧ w'.cell? ⟨b10, 1, none⟩ = some (.int .i64 Y) ∧ w'.cell? ⟨b10, 2, none⟩ = some (.int .i64 V) ∧ w'.cell? ⟨b10, 3, none⟩ = some (.string S) ∧ w'.cell? ⟨b11, 0, none⟩ = some (.int .i64 C) ∧ Below w.heap.size w w' := by assumption
            have HE : Hid (Below w.heap.size w w') := hE.2.2.2.2.2
            clear hb hE
            go_wp2_with fail
            go_ret
            exact ⟨by simp, HE.out⟩

set_option maxHeartbeats 400000 in
theorem lawCells_over (a : Option Addr) (n c : Nat) (w : World) (hs : 1048576 < n) :
    Calls Try.prog 3 #[.slice a n c] w fun e w' => e = .returned (.bool true) ∧ Below w.heap.size w w' := by
  have HD : Hid (decide ((1048576 : Int) < (n : Int)) = true) := by show decide _ = true; simp; omega
  go_enter Try.func3, Try.ntmps3
  go_wp2_with fail
  refine (lwBig_any a n c _).mono ?_
  rintro e w ⟨rfl, rfl⟩
  rw [HD.out]
  go_wp2_with fail
  go_ret
  exact ⟨rfl, Below.refl _ _⟩

theorem lawCells_any (a : Option Addr) (n c : Nat) (zs : List Int) (w : World) (h : IsRow .u8 w a n c zs) :
    Calls Try.prog 3 #[.slice a n c] w fun e w' => e = .returned (.bool true) ∧ Below w.heap.size w w' := by
  obtain ⟨hn, _, hr, hz⟩ := isRow_reads h
  by_cases hs : 1048576 < n
  · exact lawCells_over a n c w hs
  · exact lawCells_fits a n c (zs.take n) w hn (by omega) hr hz

end Go.Proofs.Ytnhfimgjljmfoaa
