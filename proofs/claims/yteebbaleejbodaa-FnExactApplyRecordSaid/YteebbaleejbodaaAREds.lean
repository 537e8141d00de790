/-
  Edits and pages in memory of one's own, told by sets of blocks: compared, marked, looked through.
-/
import Derived.Test.YteebbaleejbodaaARPgo

namespace Go.Proofs.Yteebbaleejbodaa
open Go.RowKit
set_option linter.unusedVariables false

/-- Nothing but blocks of S is turned. -/
structure TurnS (S : Nat → Prop) (w w' : World) : Prop where
  os : w'.os = w.os
  tape : w'.tape = w.tape
  output : w'.output = w.output
  size : w.heap.size ≤ w'.heap.size
  block : ∀ k, k < w.heap.size → ¬ S k → w'.heap[k]? = w.heap[k]?
theorem TurnS.refl (S : Nat → Prop) (w : World) : TurnS S w w := ⟨rfl, rfl, rfl, Nat.le_refl _, fun _ _ _ => rfl⟩
theorem TurnS.trans {S : Nat → Prop} {w w1 w2 : World} (h : TurnS S w w1) (k : TurnS S w1 w2) : TurnS S w w2 :=
  ⟨k.os.trans h.os, k.tape.trans h.tape, k.output.trans h.output, Nat.le_trans h.size k.size, fun i hi hn => (k.block i (Nat.lt_of_lt_of_le hi h.size) hn).trans (h.block i hi hn)⟩
theorem TurnS.of {S : Nat → Prop} {lo hi : Nat} {w w' : World} (h : Turned lo hi w w') (hs : ∀ k, lo ≤ k → k < hi → S k) : TurnS S w w' :=
  ⟨h.os, h.tape, h.output, h.size, fun k hk hn => h.block k hk (fun e => hn (hs k e.1 e.2))⟩
theorem TurnS.ofBelow {S : Nat → Prop} {w w' : World} (h : Below w.heap.size w w') : TurnS S w w' := ⟨h.os, h.tape, h.output, h.size, fun k hk _ => h.block k hk⟩
theorem TurnS.toBelow {S : Nat → Prop} {B : Nat} {w w' : World} (h : TurnS S w w') (hB : B ≤ w.heap.size) (hl : ∀ k, S k → B ≤ k) : Below B w w' := ⟨h.os, h.tape, h.output, h.size, fun k hk => h.block k (by omega) (fun hs => by have := hl k hs; omega)⟩
theorem TurnS.setCell {S : Nat → Prop} {w w' : World} (h : TurnS S w w') {p : Addr} (h1 : S p.block) (v : Value) : TurnS S w (w'.setCell p v) :=
  h.trans (TurnS.of ((Turned.refl p.block (p.block + 1) w').setCell (Nat.le_refl _) (Nat.lt_succ_self _) v) (fun k a b => by rw [show k = p.block by omega]; exact h1))
theorem TurnS.cell {S : Nat → Prop} {w w' : World} (h : TurnS S w w') {p : Addr} {v : Value} (hc : w.cell? p = some v) (hn : ¬ S p.block) : w'.cell? p = some v :=
  (World.cell?_of_block (h.block p.block (World.block_lt_of_cell? w p hc) hn)).trans hc
theorem TurnS.frozen {S : Nat → Prop} {w w' : World} (h : TurnS S w w') {p : Addr} {v : Value} (hc : w.cell? p = some v) (hn : ¬ S p.block) : w'.frozen? p = w.frozen? p :=
  World.frozen?_of_block (h.block p.block (World.block_lt_of_cell? w p hc) hn)
theorem BytesIn.turnS {S : Nat → Prop} {f : Nat} {w w' : World} {a : Option Addr} {zs : List Int} (h : BytesIn f (f + 1) w a zs) (ht : TurnS S w w') (hn : zs ≠ [] → ¬ S f) : BytesIn f (f + 1) w' a zs := by
  by_cases e : zs = []
  · exact .inl e
  rcases h with h0 | ⟨b, o, ea, h1, h2, hc, hf⟩
  · exact absurd h0 e
  · obtain rfl : b = f := by omega
    exact .inr ⟨b, o, ea, h1, h2, fun j hj => ht.cell (hc j hj) (hn e), fun j hj => (ht.frozen (hc j hj) (hn e)).trans (hf j hj)⟩

/-- Block b holds n edits: of the i-th the page P i and the bytes Z i, which stand at A i in block F i; all of them blocks of S, no two share any. -/
structure OwnE (S : Nat → Prop) (w : World) (b n : Nat) (P : Nat → Int) (A : Nat → Option Addr) (C : Nat → Nat) (Z : Nat → List Int) (F : Nat → Nat) : Prop where
  sb : S b
  c0 : ∀ i, i < n → w.cell? ⟨b, i * 2, none⟩ = some (.int .i64 (P i))
  c1 : ∀ i, i < n → w.cell? ⟨b, i * 2 + 1, none⟩ = some (.slice (A i) (Z i).length (C i))
  f0 : ∀ i, i < n → w.frozen? ⟨b, i * 2, none⟩ = false
  f1 : ∀ i, i < n → w.frozen? ⟨b, i * 2 + 1, none⟩ = false
  by' : ∀ i, i < n → BytesIn (F i) (F i + 1) w (A i) (Z i)
  fr : ∀ i, i < n → Z i ≠ [] → S (F i) ∧ F i ≠ b
  ne : ∀ i j, i < n → j < n → i ≠ j → Z i ≠ [] → Z j ≠ [] → F i ≠ F j
/-- Block b holds n slices of bytes likewise. -/
structure OwnQ (S : Nat → Prop) (w : World) (b n : Nat) (A : Nat → Option Addr) (C : Nat → Nat) (Z : Nat → List Int) (F : Nat → Nat) : Prop where
  sb : S b
  c1 : ∀ i, i < n → w.cell? ⟨b, i, none⟩ = some (.slice (A i) (Z i).length (C i))
  f1 : ∀ i, i < n → w.frozen? ⟨b, i, none⟩ = false
  by' : ∀ i, i < n → BytesIn (F i) (F i + 1) w (A i) (Z i)
  fr : ∀ i, i < n → Z i ≠ [] → S (F i) ∧ F i ≠ b
  ne : ∀ i j, i < n → j < n → i ≠ j → Z i ≠ [] → Z j ≠ [] → F i ≠ F j

section
variable {S S' : Nat → Prop} {b n : Nat} {w w' : World} {P P' : Nat → Int} {A : Nat → Option Addr} {C : Nat → Nat} {Z Z' : Nat → List Int} {F : Nat → Nat}
theorem OwnE.turned (h : OwnE S w b n P A C Z F) (ht : TurnS S' w w') (hn : ∀ k, S k → ¬ S' k) : OwnE S w' b n P A C Z F :=
  ⟨h.sb, fun i hi => ht.cell (h.c0 i hi) (hn b h.sb), fun i hi => ht.cell (h.c1 i hi) (hn b h.sb), fun i hi => (ht.frozen (h.c0 i hi) (hn b h.sb)).trans (h.f0 i hi), fun i hi => (ht.frozen (h.c1 i hi) (hn b h.sb)).trans (h.f1 i hi), fun i hi => (h.by' i hi).turnS ht (fun e => hn _ (h.fr i hi e).1), h.fr, h.ne⟩
theorem OwnE.below (h : OwnE S w b n P A C Z F) (hb : Below w.heap.size w w') : OwnE S w' b n P A C Z F := h.turned (S' := fun _ => False) (TurnS.ofBelow hb) (fun _ _ h => h)
theorem OwnQ.turned (h : OwnQ S w b n A C Z F) (ht : TurnS S' w w') (hn : ∀ k, S k → ¬ S' k) : OwnQ S w' b n A C Z F :=
  ⟨h.sb, fun i hi => ht.cell (h.c1 i hi) (hn b h.sb), fun i hi => (ht.frozen (h.c1 i hi) (hn b h.sb)).trans (h.f1 i hi), fun i hi => (h.by' i hi).turnS ht (fun e => hn _ (h.fr i hi e).1), h.fr, h.ne⟩
theorem OwnQ.below (h : OwnQ S w b n A C Z F) (hb : Below w.heap.size w w') : OwnQ S w' b n A C Z F := h.turned (S' := fun _ => False) (TurnS.ofBelow hb) (fun _ _ h => h)
theorem OwnE.congr (h : OwnE S w b n P A C Z F) (hP : ∀ i, i < n → P i = P' i) (hZ : ∀ i, i < n → Z i = Z' i) : OwnE S w b n P' A C Z' F :=
  ⟨h.sb, fun i hi => by rw [← hP i hi]; exact h.c0 i hi, fun i hi => by rw [← hZ i hi]; exact h.c1 i hi, h.f0, h.f1, fun i hi => by rw [← hZ i hi]; exact h.by' i hi, fun i hi e => h.fr i hi (by rw [hZ i hi]; exact e), fun i j hi hj hn e1 e2 => h.ne i j hi hj hn (by rw [hZ i hi]; exact e1) (by rw [hZ j hj]; exact e2)⟩
theorem OwnQ.congr (h : OwnQ S w b n A C Z F) (hZ : ∀ i, i < n → Z i = Z' i) : OwnQ S w b n A C Z' F :=
  ⟨h.sb, fun i hi => by rw [← hZ i hi]; exact h.c1 i hi, h.f1, fun i hi => by rw [← hZ i hi]; exact h.by' i hi, fun i hi e => h.fr i hi (by rw [hZ i hi]; exact e), fun i j hi hj hn e1 e2 => h.ne i j hi hj hn (by rw [hZ i hi]; exact e1) (by rw [hZ j hj]; exact e2)⟩
/-- The place of the j-th run is turned. -/
theorem OwnE.setAt (h : OwnE S w b n P A C Z F) {j : Nat} (hj : j < n) (v : Int) : OwnE S (w.setCell ⟨b, j * 2, none⟩ (.int .i64 v)) b n (fun i => if i = j then v else P i) A C Z F := by
  refine ⟨h.sb, fun i hi => ?_, fun i hi => ?_, fun i hi => by rw [World.frozen?_setCell]; exact h.f0 i hi, fun i hi => by rw [World.frozen?_setCell]; exact h.f1 i hi, fun i hi => (h.by' i hi).setCellE (fun e => by have := (h.fr i hi e).2; simp only; omega) _, h.fr, h.ne⟩
  · by_cases e : i = j
    · subst e
      simp only [if_true]
      exact World.cell?_setCell_same _ _ _ (h.c0 i hi)
    · simp only [if_neg e]
      rw [World.cell?_setCell_other _ _ _ _ (fun e2 => e (by have := congrArg Addr.off e2; simp at this; omega))]
      exact h.c0 i hi
  · rw [World.cell?_setCell_other _ _ _ _ (fun e2 => by have := congrArg Addr.off e2; simp at this; omega)]
    exact h.c1 i hi

/-- The bytes of the j-th run are turned. -/
theorem OwnE.setBytes (h : OwnE S w b n P A C Z F) {j : Nat} (hj : j < n) (hne : Z j ≠ []) (ht : Turned (F j) (F j + 1) w w') {ys : List Int} (hl : ys.length = (Z j).length) (hy : BytesIn (F j) (F j + 1) w' (A j) ys) : OwnE S w' b n P A C (fun i => if i = j then ys else Z i) F := by
  have hfj := h.fr j hj hne
  refine ⟨h.sb, fun i hi => ht.cell (h.c0 i hi) (by have := hfj.2; simp only; omega), fun i hi => ?_, fun i hi => (ht.frozen (h.c0 i hi) (by have := hfj.2; simp only; omega)).trans (h.f0 i hi), fun i hi => (ht.frozen (h.c1 i hi) (by have := hfj.2; simp only; omega)).trans (h.f1 i hi), fun i hi => ?_, fun i hi e => ?_, fun i k hi hk hn e1 e2 => ?_⟩
  · rw [ht.cell (h.c1 i hi) (by have := hfj.2; simp only; omega)]
    by_cases e : i = j
    · subst e
      simp only [if_true]
      rw [hl]
    · simp only [if_neg e]
  · by_cases e : i = j
    · subst e
      simp only [if_true]
      exact hy
    · simp only [if_neg e]
      exact (h.by' i hi).turnedE ht (fun e2 => by have := h.ne i j hi hj e e2 hne; omega)
  · by_cases e3 : i = j
    · subst e3; exact hfj
    · simp only [if_neg e3] at e; exact h.fr i hi e
  · refine h.ne i k hi hk hn ?_ ?_
    · by_cases e3 : i = j
      · subst e3; exact hne
      · simpa only [if_neg e3] using e1
    · by_cases e3 : k = j
      · subst e3; exact hne
      · simpa only [if_neg e3] using e2
theorem OwnQ.setBytes (h : OwnQ S w b n A C Z F) {j : Nat} (hj : j < n) (hne : Z j ≠ []) (ht : Turned (F j) (F j + 1) w w') {ys : List Int} (hl : ys.length = (Z j).length) (hy : BytesIn (F j) (F j + 1) w' (A j) ys) : OwnQ S w' b n A C (fun i => if i = j then ys else Z i) F := by
  have hfj := h.fr j hj hne
  refine ⟨h.sb, fun i hi => ?_, fun i hi => (ht.frozen (h.c1 i hi) (by have := hfj.2; simp only; omega)).trans (h.f1 i hi), fun i hi => ?_, fun i hi e => ?_, fun i k hi hk hn e1 e2 => ?_⟩
  · rw [ht.cell (h.c1 i hi) (by have := hfj.2; simp only; omega)]
    by_cases e : i = j
    · subst e
      simp only [if_true]
      rw [hl]
    · simp only [if_neg e]
  · by_cases e : i = j
    · subst e
      simp only [if_true]
      exact hy
    · simp only [if_neg e]
      exact (h.by' i hi).turnedE ht (fun e2 => by have := h.ne i j hi hj e e2 hne; omega)
  · by_cases e3 : i = j
    · subst e3; exact hfj
    · simp only [if_neg e3] at e; exact h.fr i hi e
  · refine h.ne i k hi hk hn ?_ ?_
    · by_cases e3 : i = j
      · subst e3; exact hne
      · simpa only [if_neg e3] using e1
    · by_cases e3 : k = j
      · subst e3; exact hne
      · simpa only [if_neg e3] using e2
end

set_option maxHeartbeats 1000000 in
theorem eqEditS_own (x y : Nat) (n c d : Nat) (P : Nat → Int) (A B : Nat → Option Addr) (C D : Nat → Nat) (Z : Nat → List Int) (F G : Nat → Nat) (S S' : Nat → Prop) (w : World) (hm : n + took Z n ≤ 13000000) (hx : OwnE S w x n P A C Z F) (hy : OwnE S' w y n P B D Z G) :
    Calls Try.prog 83 #[.slice (some ⟨x, 0, none⟩) n c, .slice (some ⟨y, 0, none⟩) n d] w fun e w' => e = .returned (.bool true) ∧ Below w.heap.size w w' := by
  have hzl : ∀ i, i < n → (Z i).length ≤ 140737488351232 := fun i hi => by have := took_one Z i n hi; omega
  go_enter Try.func83, Try.ntmps83
  go_wp2_with fail
  go_loopw [5] (fun i wr => ∃ k : Nat, k ≤ n ∧ i = .int .i64 k ∧ Below w.heap.size w wr ∧ OwnE S wr x n P A C Z F ∧ OwnE S' wr y n P B D Z G) (fun i _ => n - (intOf i).toNat)
  case atStart => exact ⟨0, Nat.zero_le _, rfl, Below.refl _ _, hx, hy⟩
  case round =>
    obtain ⟨k, hk, rfl, g, hx, hy⟩ := hrel
    by_cases hlt : k < n
    · have hkn : (k : Int) < (n : Int) := by omega
      obtain ⟨p, hp⟩ : ∃ p, p = P k := ⟨_, rfl⟩
      obtain ⟨zs, hzs⟩ : ∃ zs, zs = Z k := ⟨_, rfl⟩
      have hzk := hzl k hlt
      have x0 := hx.c0 k hlt
      have x1 := hx.c1 k hlt
      have y0 := hy.c0 k hlt
      have y1 := hy.c1 k hlt
      have yx := hx.by' k hlt
      have yy := hy.by' k hlt
      rw [← hp] at x0 y0
      rw [← hzs] at x1 y1 yx yy hzk
      clear hp hzs
      have HS : Hid (∀ V, Below wr.heap.size wr V → V.cell? ⟨x, k * 2, none⟩ = some (.int .i64 p) ∧ V.cell? ⟨x, k * 2 + 1, none⟩ = some (.slice (A k) zs.length (C k)) ∧ V.cell? ⟨y, k * 2, none⟩ = some (.int .i64 p) ∧ V.cell? ⟨y, k * 2 + 1, none⟩ = some (.slice (B k) zs.length (D k))) := fun V hV =>
        ⟨(hV.cell (World.block_lt_of_cell? wr _ x0)).trans x0, (hV.cell (World.block_lt_of_cell? wr _ x1)).trans x1, (hV.cell (World.block_lt_of_cell? wr _ y0)).trans y0, (hV.cell (World.block_lt_of_cell? wr _ y1)).trans y1⟩
      go_wp2_with fail
      go_region_held (fun V => Below wr.heap.size wr V ∧ V.cell? ⟨x, k * 2, none⟩ = some (.int .i64 p) ∧ V.cell? ⟨x, k * 2 + 1, none⟩ = some (.slice (A k) zs.length (C k)) ∧ V.cell? ⟨y, k * 2, none⟩ = some (.int .i64 p) ∧ V.cell? ⟨y, k * 2 + 1, none⟩ = some (.slice (B k) zs.length (D k))) (first | exact eqKeepDE HS.out (by assumption) | exact eqKeepE HS.out (Below.refl _ _) (by go_grown)) (first | (go_at_call 135; refine (eqRun_same p (A k) (B k) _ _ _ _ zs zs.length (C k) (D k) _ rfl hzk (yx.below (by first | assumption | go_grown)) (yy.below (by first | assumption | go_grown))).mono ?_; rintro e w' ⟨rfl, hb⟩))
      rename_i hV
      have g : Below w.heap.size w w' := g.trans (hV.1.mono g.size)
      have hx := hx.below hV.1
      have hy := hy.below hV.1
      clear hV x0 x1 y0 y1 yx yy HS hb
      go_wp2_with fail
      go_roundw
      case rel => exact ⟨k + 1, by omega, by go_num, g, hx, hy⟩
      case measure => simp [intOf]; omega
    · go_wp2_with fail
      go_ret
      exact ⟨rfl, g⟩

set_option maxHeartbeats 1000000 in
theorem eqByteSS_q (x y : Nat) (n c d : Nat) (A B : Nat → Option Addr) (C D : Nat → Nat) (Z : Nat → List Int) (F G : Nat → Nat) (S S' : Nat → Prop) (w : World) (hm : n ≤ 13000000) (hz : ∀ i, i < n → (Z i).length ≤ 140737488351232) (hx : OwnQ S w x n A C Z F) (hy : OwnQ S' w y n B D Z G) :
    Calls Try.prog 27 #[.slice (some ⟨x, 0, none⟩) n c, .slice (some ⟨y, 0, none⟩) n d] w fun e w' => e = .returned (.bool true) ∧ Below w.heap.size w w' := by
  go_enter Try.func27, Try.ntmps27
  go_wp2_with fail
  go_loopw [5] (fun i wr => ∃ k : Nat, k ≤ n ∧ i = .int .i64 k ∧ Below w.heap.size w wr ∧ OwnQ S wr x n A C Z F ∧ OwnQ S' wr y n B D Z G) (fun i _ => n - (intOf i).toNat)
  case atStart => exact ⟨0, Nat.zero_le _, rfl, Below.refl _ _, hx, hy⟩
  case round =>
    clear hx hy
    obtain ⟨k, hk, rfl, g, hx, hy⟩ := hrel
    by_cases hlt : k < n
    · have hkn : (k : Int) < (n : Int) := by omega
      obtain ⟨zs, hzs⟩ : ∃ zs, zs = Z k := ⟨_, rfl⟩
      have hzl := hz k hlt
      rw [← hzs] at hzl
      have HX := fun V (hV : Below wr.heap.size wr V) => (hx.below hV)
      have HY := fun V (hV : Below wr.heap.size wr V) => (hy.below hV)
      have HS : Hid (∀ V, Below wr.heap.size wr V → V.cell? ⟨x, k, none⟩ = some (.slice (A k) zs.length (C k)) ∧ V.cell? ⟨y, k, none⟩ = some (.slice (B k) zs.length (D k))) := fun V hV => ⟨by rw [hzs]; exact (HX V hV).c1 k hlt, by rw [hzs]; exact (HY V hV).c1 k hlt⟩
      have yx : Hid (∀ V, Below wr.heap.size wr V → BytesIn (F k) (F k + 1) V (A k) zs) := fun V hV => by rw [hzs]; exact (HX V hV).by' k hlt
      have yy : Hid (∀ V, Below wr.heap.size wr V → BytesIn (G k) (G k + 1) V (B k) zs) := fun V hV => by rw [hzs]; exact (HY V hV).by' k hlt
      clear HX HY hzs
      generalize A k = ax at HS yx
      generalize C k = cx at HS
      generalize B k = ay at HS yy
      generalize D k = cy at HS
      generalize F k = fk at yx
      generalize G k = gk at yy
      go_wp2_with fail
      go_upto_region 6 with (fail)
      refine wp_region_held_drew (S := fun V => Below wr.heap.size wr V ∧ V.cell? ⟨x, k, none⟩ = some (.slice ax zs.length cx) ∧ V.cell? ⟨y, k, none⟩ = some (.slice ay zs.length cy)) (by kernel_rfl) ⟨(Below.refl _ _).drew, HS.out _ (Below.refl _ _).drew⟩ (fun hHeld => ?_)
      generalize wr.drew = D at hHeld ⊢
      refine wpAnyH_take (i := 0) (v := ?v1) rfl (by kernel_rfl) (by kernel_rfl) (by kernel_rfl) (fun _ _ _ h => h) (Or.inl ⟨by kernel_rfl, ?h1⟩) hHeld ?_
      case h1 => intro u hSw; (try dsimp only at hSw); go_simp; try with_reducible rfl
      try simp only [List.getElem_toArray]
      try simp only [List.getElem_cons_succ]
      try simp only [List.getElem_cons_zero]
      try simp only [Act.put]
      try simp only [List.setIfInBounds_toArray]
      try simp only [List.set]
      refine wpAnyH_take (i := 1) (v := ?v2) rfl (by kernel_rfl) (by kernel_rfl) (by kernel_rfl) (fun _ _ _ h => h) (Or.inl ⟨by kernel_rfl, ?h2⟩) hHeld ?_
      case h2 => intro u hSw; (try dsimp only at hSw); go_simp; try with_reducible rfl
      try simp only [List.getElem_toArray]
      try simp only [List.getElem_cons_succ]
      try simp only [List.getElem_cons_zero]
      try simp only [Act.put]
      try simp only [List.setIfInBounds_toArray]
      try simp only [List.set]
      refine wpAnyH_take (i := 4) (v := ?v3) rfl (by kernel_rfl) (by kernel_rfl) (by kernel_rfl) (fun _ _ _ h => h) (Or.inl ⟨by kernel_rfl, ?h3⟩) hHeld ?_
      case h3 => intro u hSw; (try dsimp only at hSw); go_simp; try with_reducible rfl
      try simp only [List.getElem_toArray]
      try simp only [List.getElem_cons_succ]
      try simp only [List.getElem_cons_zero]
      try simp only [Act.put]
      try simp only [List.setIfInBounds_toArray]
      try simp only [List.set]
      refine wpAnyH_take (i := 5) (v := ?v4) rfl (by kernel_rfl) (by kernel_rfl) (by kernel_rfl) (fun _ _ _ h => h) (Or.inl ⟨by kernel_rfl, ?h4⟩) hHeld ?_
      case h4 => intro u hSw; (try dsimp only at hSw); go_simp; try with_reducible rfl
      try simp only [List.getElem_toArray]
      try simp only [List.getElem_cons_succ]
      try simp only [List.getElem_cons_zero]
      try simp only [Act.put]
      try simp only [List.setIfInBounds_toArray]
      try simp only [List.set]
      refine wpAnyH_take (i := 2) (v := ?v5) rfl (by kernel_rfl) (by kernel_rfl) (by kernel_rfl) (fun _ _ _ h => h) (Or.inl ⟨by kernel_rfl, ?h5⟩) hHeld ?_
      case h5 => intro u hSw; (try dsimp only at hSw); go_simp; try with_reducible rfl
      try simp only [List.getElem_toArray]
      try simp only [List.getElem_cons_succ]
      try simp only [List.getElem_cons_zero]
      try simp only [Act.put]
      try simp only [List.setIfInBounds_toArray]
      try simp only [List.set]
      refine wpAnyH_take (i := 6) (v := ?v6) rfl (by kernel_rfl) (by kernel_rfl) (by kernel_rfl) (fun _ _ _ h => h) (Or.inl ⟨by kernel_rfl, ?h6⟩) hHeld ?_
      case h6 => intro u hSw; (try dsimp only at hSw); go_simp; try with_reducible rfl
      try simp only [List.getElem_toArray]
      try simp only [List.getElem_cons_succ]
      try simp only [List.getElem_cons_zero]
      try simp only [Act.put]
      try simp only [List.setIfInBounds_toArray]
      try simp only [List.set]
      refine wpAnyH_take (i := 3) (v := ?v7) rfl (by kernel_rfl) (by kernel_rfl) (by kernel_rfl) (fun _ _ _ h => h) (Or.inl ⟨by kernel_rfl, ?h7⟩) hHeld ?_
      case h7 => intro u hSw; have q0 := hSw.2.1; clear hSw; go_simp; try with_reducible rfl
      try simp only [List.getElem_toArray]
      try simp only [List.getElem_cons_succ]
      try simp only [List.getElem_cons_zero]
      try simp only [Act.put]
      try simp only [List.setIfInBounds_toArray]
      try simp only [List.set]
      refine wpAnyH_take (i := 7) (v := ?v8) rfl (by kernel_rfl) (by kernel_rfl) (by kernel_rfl) (fun _ _ _ h => h) (Or.inl ⟨by kernel_rfl, ?h8⟩) hHeld ?_
      case h8 => intro u hSw; have q0 := hSw.2.2; clear hSw; go_simp; try with_reducible rfl
      try simp only [List.getElem_toArray]
      try simp only [List.getElem_cons_succ]
      try simp only [List.getElem_cons_zero]
      try simp only [Act.put]
      try simp only [List.setIfInBounds_toArray]
      try simp only [List.set]
      refine wpAnyH_ready (rs := [8]) (by kernel_rfl) (by simp) ?_
      refine AllReadyH.cons rfl (fun K hK => ?_) AllReadyH.nil
      go_simp
      go_wp2_with (go_at_call 70; refine (eqByteS_same _ _ _ _ _ _ zs zs.length _ _ _ rfl hzl (yx.out _ hHeld.1) (yy.out _ hHeld.1)).mono ?_; rintro e w' ⟨rfl, m, rfl⟩)
      refine hK.out _ _ (⟨below_draws hHeld.1 m, HS.out _ (below_draws hHeld.1 m)⟩) (fun hHeld => ?_)
      clear hK K
      try simp only [Act.put]
      try simp only [List.setIfInBounds_toArray]
      try simp only [List.set]
      refine wpAnyH_take (i := 9) (v := ?v9) rfl (by kernel_rfl) (by kernel_rfl) (by kernel_rfl) (fun _ _ _ h => h) (Or.inl ⟨by kernel_rfl, ?h9⟩) hHeld ?_
      case h9 => intro u hSw; (try dsimp only at hSw); go_simp; try with_reducible rfl
      try simp only [List.getElem_toArray]
      try simp only [List.getElem_cons_succ]
      try simp only [List.getElem_cons_zero]
      try simp only [Act.put]
      try simp only [List.setIfInBounds_toArray]
      try simp only [List.set]
      refine wpAnyH_done (by kernel_rfl) ?_ _
      have gw := hHeld.1
      have g := g.trans (gw.mono g.size)
      have hx := hx.below gw
      have hy := hy.below gw
      clear hHeld HS yx yy gw
      go_wp2_with fail
      go_roundw
      case rel => exact ⟨k + 1, by omega, by go_num, g, hx, hy⟩
      case measure => simp [intOf]; omega
    · go_wp2_with fail
      go_ret
      exact ⟨rfl, g⟩

set_option maxHeartbeats 1000000 in
theorem markEditS_q (b n c : Nat) (S : Nat → Prop) (P : Nat → Int) (A : Nat → Option Addr) (C : Nat → Nat) (Z : Nat → List Int) (F : Nat → Nat) (k : Int) (w : World) (hm : n + took Z n ≤ 13000000) (hk0 : 0 ≤ k) (hk1 : k ≤ 10000000) (h : OwnE S w b n P A C Z F) :
    Calls Try.prog 86 #[.slice (some ⟨b, 0, none⟩) n c, .int .i64 k] w fun e w' => e = .returned (.int .i64 (mk Z k n)) ∧ TurnS S w w' ∧ OwnE S w' b n (mk Z k) A C (mZ Z k) F := by
  have hzl : ∀ i, i < n → (Z i).length ≤ 140737488351232 := fun i hi => by have := took_one Z i n hi; omega
  have hmk : ∀ i, i ≤ n → 0 ≤ mk Z k i ∧ mk Z k i ≤ 40000000 := fun i hi => by have := took_mono Z i n hi; unfold mk; omega
  go_enter Try.func86, Try.ntmps86
  go_wp2_with fail
  go_loopw [5, 1] (fun i kk wr => ∃ j : Nat, j ≤ n ∧ i = .int .i64 j ∧ kk = .int .i64 (mk Z k j) ∧ TurnS S w wr ∧ OwnE S wr b n (fun i => if i < j then mk Z k i else P i) A C (fun i => if i < j then mZ Z k i else Z i) F) (fun i _ _ => n - (intOf i).toNat)
  case atStart => exact ⟨0, Nat.zero_le _, rfl, by simp [mk, took], TurnS.refl _ _, h.congr (fun i _ => by simp) (fun i _ => by simp)⟩
  case round =>
    obtain ⟨j, hj, rfl, rfl, ht, hO⟩ := hrel
    clear h
    by_cases hlt : j < n
    · have hjn : (j : Int) < (n : Int) := by omega
      obtain ⟨kk, hkk⟩ : ∃ kk, kk = mk Z k j := ⟨_, rfl⟩
      have hb1 := hmk j (by omega)
      rw [← hkk] at hb1 ⊢
      have x0 := hO.c0 j hlt
      have y0 := hO.f0 j hlt
      have x1 := hO.c1 j hlt
      simp only [Nat.lt_irrefl, if_false] at x0 x1
      have hO1 := hO.setAt hlt kk
      have ht1 := ht.setCell (p := ⟨b, j * 2, none⟩) hO.sb (.int .i64 kk)
      obtain ⟨hb1, hb2⟩ := hb1
      have HK : Hid (kk = mk Z k j) := hkk
      clear hkk
      go_upto_region 5 with (fail)
      have x2 := hO1.c1 j hlt
      simp only [Nat.lt_irrefl, if_false] at x2
      clear x0 y0 x1 hO ht
      generalize wr.setCell ⟨b, j * 2, none⟩ (.int .i64 kk) = V at hO1 ht1 x2 ⊢
      have hbz := hO1.by' j hlt
      simp only [Nat.lt_irrefl, if_false] at hbz
      by_cases hne : Z j = []
      · have hl0 : (Z j).length = 0 := by rw [hne]; rfl
        rw [hl0] at x2
        have hbz0 : BytesIn 0 0 V (A j) [] := .inl rfl
        go_wp2_with fail
        refine (markByteS_any (A j) 0 0 [] 0 (C j) (kk + 1) _ rfl (by omega) (by omega) (by omega) hbz0).mono ?_
        rintro e w2 ⟨rfl, t2, _⟩
        have hO2 := hO1.turned (S' := fun _ => False) (TurnS.of t2 (fun k _ h => by omega)) (fun _ _ h => h)
        have ht2 : TurnS S w w2 := ht1.trans (TurnS.of t2 (fun k _ h => by omega))
        have HN : Hid (mk Z k (j + 1) = kk + 1 + ((0 : Nat) : Int)) := by show _ = _; rw [mk_succ, hl0, ← HK.out]
        clear hO1 ht1 t2 x2 hbz
        go_wp2_with fail
        go_roundw
        case rel =>
          refine ⟨j + 1, by omega, by go_num, by rw [HN.out]; simp, ht2, hO2.congr (fun i hi => ?_) (fun i hi => ?_)⟩
          · by_cases e : i = j
            · subst e; simp [HK.out]
            · simp only [if_neg e]
              by_cases e2 : i < j
              · rw [if_pos e2, if_pos (by omega)]
              · rw [if_neg e2, if_neg (by omega)]
          · by_cases e : i = j
            · subst e; simp [mZ, hne, marked]
            · by_cases e2 : i < j
              · rw [if_pos e2, if_pos (by omega)]
              · rw [if_neg e2, if_neg (by omega)]
        case measure => simp [intOf]; omega
      · have hzj := hzl j hlt
        go_wp2_with fail
        refine (markByteS_any (A j) _ _ (Z j) (Z j).length (C j) (kk + 1) _ rfl hzj (by omega) (by omega) hbz).mono ?_
        rintro e w2 ⟨rfl, t2, hy2⟩
        have hO2 := hO1.setBytes hlt (by simp only [Nat.lt_irrefl, if_false]; exact hne) t2 (ys := mZ Z k j) (by simp only [Nat.lt_irrefl, if_false]; exact mZ_len Z k j) (by unfold mZ; rw [← HK.out]; exact hy2)
        have hfj := hO1.fr j hlt (by simp only [Nat.lt_irrefl, if_false]; exact hne)
        have ht2 : TurnS S w w2 := ht1.trans (TurnS.of t2 (fun k h1 h2 => by rw [show k = F j by omega]; exact hfj.1))
        have HN : Hid (mk Z k (j + 1) = kk + 1 + ((Z j).length : Int)) := by show _ = _; rw [mk_succ, ← HK.out]
        clear hO1 ht1 t2 x2 hbz hy2 hfj
        go_wp2_with fail
        go_roundw
        case rel =>
          refine ⟨j + 1, by omega, by go_num, by rw [HN.out], ht2, hO2.congr (fun i hi => ?_) (fun i hi => ?_)⟩
          · by_cases e : i = j
            · subst e; simp [HK.out]
            · simp only [if_neg e]
              by_cases e2 : i < j
              · rw [if_pos e2, if_pos (by omega)]
              · rw [if_neg e2, if_neg (by omega)]
          · by_cases e : i = j
            · subst e; simp
            · simp only [if_neg e]
              by_cases e2 : i < j
              · rw [if_pos e2, if_pos (by omega)]
              · rw [if_neg e2, if_neg (by omega)]
        case measure => simp [intOf]; omega
    · have e : j = n := by omega
      subst e
      go_wp2_with fail
      go_ret
      exact ⟨rfl, ht, hO.congr (fun i hi => by rw [if_pos hi]) (fun i hi => by rw [if_pos hi])⟩

set_option maxHeartbeats 1000000 in
theorem heldEditS_q (b n c : Nat) (S : Nat → Prop) (A : Nat → Option Addr) (C : Nat → Nat) (Z : Nat → List Int) (F : Nat → Nat) (k : Int) (w : World) (hm : n + took Z n ≤ 13000000) (hk0 : 0 ≤ k) (hk1 : k ≤ 10000000) (h : OwnE S w b n (mk Z k) A C (mZ Z k) F) :
    Calls Try.prog 87 #[.slice (some ⟨b, 0, none⟩) n c, .int .i64 k] w fun e w' => e = .returned (.int .i64 (mk Z k n)) ∧ w' = w := by
  have hzl : ∀ i, i < n → (Z i).length ≤ 140737488351232 := fun i hi => by have := took_one Z i n hi; omega
  have hmk : ∀ i, i ≤ n → 0 ≤ mk Z k i ∧ mk Z k i ≤ 40000000 := fun i hi => by have := took_mono Z i n hi; unfold mk; omega
  go_enter Try.func87, Try.ntmps87
  go_wp2_with fail
  go_loop [5, 1] (fun i kk => ∃ j : Nat, j ≤ n ∧ i = .int .i64 j ∧ kk = .int .i64 (mk Z k j)) (fun i _ => n - (intOf i).toNat)
  case atStart => exact ⟨0, Nat.zero_le _, rfl, by simp [mk, took]⟩
  case round =>
    obtain ⟨j, hj, rfl, rfl⟩ := hrel
    by_cases hlt : j < n
    · have hjn : (j : Int) < (n : Int) := by omega
      have hb1 := hmk j (by omega)
      have hb2 := hmk (j + 1) (by omega)
      have hms := mk_succ Z k j
      have x0 := h.c0 j hlt
      have x1 := h.c1 j hlt
      have hbz := h.by' j hlt
      rw [mZ_len] at x1
      unfold mZ at hbz
      obtain ⟨kk, hkk⟩ : ∃ kk, kk = mk Z k j := ⟨_, rfl⟩
      rw [← hkk] at hb1 hms x0 hbz ⊢
      rw [hms] at hb2
      have HN : Hid (mk Z k (j + 1) = kk + 1 + ((Z j).length : Int)) := hms
      have hzj := hzl j hlt
      have hpos : ¬ (kk + 1 + ((Z j).length : Int) < 0) := by omega
      obtain ⟨hb1, hb3⟩ := hb1
      clear hkk hms
      go_wp2_with fail
      refine (heldByteS_any (A j) _ _ (Z j) (Z j).length (C j) (kk + 1) _ rfl hzj (by omega) (by omega) hbz).mono ?_
      rintro e w2 ⟨rfl, hw⟩
      subst w2
      go_wp2_with fail
      go_round
      case rel => exact ⟨j + 1, by omega, by go_num, by rw [HN.out]⟩
      case measure => simp [intOf]; omega
    · have e : j = n := by omega
      subst e
      go_wp2_with fail
      go_ret
      exact ⟨rfl, rfl⟩

set_option maxHeartbeats 1000000 in
theorem markByteSS_q (b n c : Nat) (S : Nat → Prop) (A : Nat → Option Addr) (C : Nat → Nat) (Z : Nat → List Int) (F : Nat → Nat) (k : Int) (w : World) (hm : n + took Z n ≤ 13000000) (hk0 : 0 ≤ k) (hk1 : k ≤ 10000000) (h : OwnQ S w b n A C Z F) :
    Calls Try.prog 28 #[.slice (some ⟨b, 0, none⟩) n c, .int .i64 k] w fun e w' => e = .returned (.int .i64 (mkP Z k n)) ∧ TurnS S w w' ∧ OwnQ S w' b n A C (mZP Z k) F := by
  have hzl : ∀ i, i < n → (Z i).length ≤ 140737488351232 := fun i hi => by have := took_one Z i n hi; omega
  have hmk : ∀ i, i ≤ n → 0 ≤ mkP Z k i ∧ mkP Z k i ≤ 40000000 := fun i hi => by have := took_mono Z i n hi; unfold mkP; omega
  go_enter Try.func28, Try.ntmps28
  go_wp2_with fail
  go_loopw [5, 1] (fun i kk wr => ∃ j : Nat, j ≤ n ∧ i = .int .i64 j ∧ kk = .int .i64 (mkP Z k j) ∧ TurnS S w wr ∧ OwnQ S wr b n A C (fun i => if i < j then mZP Z k i else Z i) F) (fun i _ _ => n - (intOf i).toNat)
  case atStart => exact ⟨0, Nat.zero_le _, rfl, by simp [mkP, took], TurnS.refl _ _, h.congr (fun i _ => by simp)⟩
  case round =>
    obtain ⟨j, hj, rfl, rfl, ht, hO⟩ := hrel
    clear h
    by_cases hlt : j < n
    · have hjn : (j : Int) < (n : Int) := by omega
      obtain ⟨kk, hkk⟩ : ∃ kk, kk = mkP Z k j := ⟨_, rfl⟩
      have hb1 := hmk j (by omega)
      rw [← hkk] at hb1 ⊢
      have x2 := hO.c1 j hlt
      simp only [Nat.lt_irrefl, if_false] at x2
      obtain ⟨hb1, hb2⟩ := hb1
      have HK : Hid (kk = mkP Z k j) := hkk
      clear hkk
      have hbz := hO.by' j hlt
      simp only [Nat.lt_irrefl, if_false] at hbz
      by_cases hne : Z j = []
      · have hl0 : (Z j).length = 0 := by rw [hne]; rfl
        rw [hl0] at x2
        have hbz0 : BytesIn 0 0 wr (A j) [] := .inl rfl
        go_wp2_with fail
        refine (markByteS_any (A j) 0 0 [] 0 (C j) kk _ rfl (by omega) (by omega) (by omega) hbz0).mono ?_
        rintro e w2 ⟨rfl, t2, _⟩
        have hO2 := hO.turned (S' := fun _ => False) (TurnS.of t2 (fun k _ h => by omega)) (fun _ _ h => h)
        have ht2 : TurnS S w w2 := ht.trans (TurnS.of t2 (fun k _ h => by omega))
        have HN : Hid (mkP Z k (j + 1) = kk + ((0 : Nat) : Int)) := by show _ = _; rw [mkP_succ, hl0, ← HK.out]
        clear hO ht t2 x2 hbz
        go_wp2_with fail
        go_roundw
        case rel =>
          refine ⟨j + 1, by omega, by go_num, by rw [HN.out]; simp, ht2, hO2.congr (fun i hi => ?_)⟩
          by_cases e : i = j
          · subst e; simp [mZP, hne, marked]
          · by_cases e2 : i < j
            · rw [if_pos e2, if_pos (by omega)]
            · rw [if_neg e2, if_neg (by omega)]
        case measure => simp [intOf]; omega
      · have hzj := hzl j hlt
        go_wp2_with fail
        refine (markByteS_any (A j) _ _ (Z j) (Z j).length (C j) kk _ rfl hzj (by omega) (by omega) hbz).mono ?_
        rintro e w2 ⟨rfl, t2, hy2⟩
        have hO2 := hO.setBytes hlt (by simp only [Nat.lt_irrefl, if_false]; exact hne) t2 (ys := mZP Z k j) (by simp only [Nat.lt_irrefl, if_false]; exact mZP_len Z k j) (by unfold mZP; rw [← HK.out]; exact hy2)
        have hfj := hO.fr j hlt (by simp only [Nat.lt_irrefl, if_false]; exact hne)
        have ht2 : TurnS S w w2 := ht.trans (TurnS.of t2 (fun k h1 h2 => by rw [show k = F j by omega]; exact hfj.1))
        have HN : Hid (mkP Z k (j + 1) = kk + ((Z j).length : Int)) := by show _ = _; rw [mkP_succ, ← HK.out]
        clear hO ht t2 x2 hbz hy2 hfj
        go_wp2_with fail
        go_roundw
        case rel =>
          refine ⟨j + 1, by omega, by go_num, by rw [HN.out], ht2, hO2.congr (fun i hi => ?_)⟩
          by_cases e : i = j
          · subst e; simp
          · simp only [if_neg e]
            by_cases e2 : i < j
            · rw [if_pos e2, if_pos (by omega)]
            · rw [if_neg e2, if_neg (by omega)]
        case measure => simp [intOf]; omega
    · have e : j = n := by omega
      subst e
      go_wp2_with fail
      go_ret
      exact ⟨rfl, ht, hO.congr (fun i hi => by rw [if_pos hi])⟩

set_option maxHeartbeats 1000000 in
theorem heldByteSS_q (b n c : Nat) (S : Nat → Prop) (A : Nat → Option Addr) (C : Nat → Nat) (Z : Nat → List Int) (F : Nat → Nat) (k : Int) (w : World) (hm : n + took Z n ≤ 13000000) (hk0 : 0 ≤ k) (hk1 : k ≤ 10000000) (h : OwnQ S w b n A C (mZP Z k) F) :
    Calls Try.prog 88 #[.slice (some ⟨b, 0, none⟩) n c, .int .i64 k] w fun e w' => e = .returned (.int .i64 (mkP Z k n)) ∧ w' = w := by
  have hzl : ∀ i, i < n → (Z i).length ≤ 140737488351232 := fun i hi => by have := took_one Z i n hi; omega
  have hmk : ∀ i, i ≤ n → 0 ≤ mkP Z k i ∧ mkP Z k i ≤ 40000000 := fun i hi => by have := took_mono Z i n hi; unfold mkP; omega
  go_enter Try.func88, Try.ntmps88
  go_wp2_with fail
  go_loop [5, 1] (fun i kk => ∃ j : Nat, j ≤ n ∧ i = .int .i64 j ∧ kk = .int .i64 (mkP Z k j)) (fun i _ => n - (intOf i).toNat)
  case atStart => exact ⟨0, Nat.zero_le _, rfl, by simp [mkP, took]⟩
  case round =>
    obtain ⟨j, hj, rfl, rfl⟩ := hrel
    by_cases hlt : j < n
    · have hjn : (j : Int) < (n : Int) := by omega
      have hb1 := hmk j (by omega)
      have hb2 := hmk (j + 1) (by omega)
      have hms := mkP_succ Z k j
      have x1 := h.c1 j hlt
      have hbz := h.by' j hlt
      rw [mZP_len] at x1
      unfold mZP at hbz
      obtain ⟨kk, hkk⟩ : ∃ kk, kk = mkP Z k j := ⟨_, rfl⟩
      rw [← hkk] at hb1 hms hbz ⊢
      rw [hms] at hb2
      have HN : Hid (mkP Z k (j + 1) = kk + ((Z j).length : Int)) := hms
      have hzj := hzl j hlt
      have hpos : ¬ (kk + ((Z j).length : Int) < 0) := by omega
      obtain ⟨hb1, hb3⟩ := hb1
      clear hkk hms
      go_wp2_with fail
      refine (heldByteS_any (A j) _ _ (Z j) (Z j).length (C j) kk _ rfl hzj (by omega) (by omega) hbz).mono ?_
      rintro e w2 ⟨rfl, hw⟩
      subst w2
      go_wp2_with fail
      go_round
      case rel => exact ⟨j + 1, by omega, by go_num, by rw [HN.out]⟩
      case measure => simp [intOf]; omega
    · have e : j = n := by omega
      subst e
      go_wp2_with fail
      go_ret
      exact ⟨rfl, rfl⟩

end Go.Proofs.Yteebbaleejbodaa
