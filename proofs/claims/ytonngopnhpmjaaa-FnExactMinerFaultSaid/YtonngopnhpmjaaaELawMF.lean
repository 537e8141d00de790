/-
  toMiner, eqMiner; the law FnExactMinerFault answers true.
-/
import Derived.Test.YtonngopnhpmjaaaEBft
import Derived.Test.YtonngopnhpmjaaaECho
import Derived.OpenShut
import Derived.Deep.SlicePairs

namespace Go.Proofs.Ytonngopnhpmjaaa
open Go.ChangeShapes Go.WideShapes Go.ChangeAt Go.RowKit Go.Maps Go.Joins
set_option linter.unusedVariables false
set_option maxRecDepth 20000

theorem PartP.turned {w w' : World} {g n k : Nat} {ps : List (List Int)} {F : Nat → Nat} (h : PartP w g n k ps F) {lo hi : Nat} (ht : Turned lo hi w w') (hn : hi ≤ g) (hg : g < w.heap.size) : PartP w' g n k ps F :=
  ⟨fun i zs hi' hz => ⟨ht.cell (p := ⟨g, i, none⟩) (h.c i zs hi' hz).1 (.inr hn), (h.c i zs hi' hz).2.turned ht (.inr (by have := (h.fr i hi').1; omega))⟩, fun o ho => by obtain ⟨v, hv⟩ := h.e o ho; exact ⟨v, ht.cell (p := ⟨g, o, none⟩) hv (.inr hn)⟩, fun o => (World.frozen?_of_block (ht.block g hg (by omega))).trans (h.f o), fun i hi' => ⟨(h.fr i hi').1, Nat.le_trans (h.fr i hi').2 ht.size⟩, h.ne⟩
theorem PartB.turned {w w' : World} {g n k : Nat} {bs : List Bf} (h : PartB w g n k bs) {lo hi : Nat} (ht : Turned lo hi w w') (hn : hi ≤ g) (hg : g < w.heap.size) : PartB w' g n k bs :=
  ⟨fun i x hi' hx => by
    obtain ⟨p, h0, h1, h2⟩ := h.c i x hi' hx
    exact ⟨p, ht.cell (p := ⟨g, _, none⟩) h0 (.inr hn), ht.cell (p := ⟨g, _, none⟩) h1 (.inr hn), (h2.turned ht (.inr (by omega))).mono (Nat.le_refl _) ht.size⟩, fun o ho => by obtain ⟨v, hv⟩ := h.e o ho; exact ⟨v, ht.cell (p := ⟨g, o, none⟩) hv (.inr hn)⟩, fun o => (World.frozen?_of_block (ht.block g hg (by omega))).trans (h.f o)⟩

set_option maxHeartbeats 4000000 in
theorem toMiner_any (pa : Option Addr) (ps : List (List Int)) (np pc : Nat) (a : Option Addr) (bs : List Bf) (n c : Nat) (w : World) (hnp : ps.length = np) (hmp : np ≤ 1048576) (hpo : PgOk ps) (hrd : PgRead w pa ps) (hn : bs.length = n) (hm : n ≤ 1048576) (hsm : BfSm bs) (hb : BfRead w a bs) :
    Calls Try.prog 19 #[.agg #[.slice pa np pc, .slice a n c]] w fun e w' => ∃ (g1 g2 : Nat) (F : Nat → Nat), e = .returned (.agg #[.slice (some ⟨g1, 0, none⟩) np np, .slice (some ⟨g2, 0, none⟩) n n]) ∧ Below w.heap.size w w' ∧ g1 < w'.heap.size ∧ g2 < w'.heap.size ∧ PartP w' g1 np np ps F ∧ PartB w' g2 n n bs := by
  have HT : Hid (∀ W, Below w.heap.size w W → Calls Try.prog 24 #[.slice pa np pc] W fun e w' => e = .returned (.slice (some ⟨W.heap.size, 0, none⟩) np np) ∧ Below W.heap.size W w' ∧ W.heap.size < w'.heap.size ∧ ∃ F, PartP w' W.heap.size np np ps F) := fun W hW => toByteSS_any pa ps np pc W hnp hmp hpo (hrd.below hW (Nat.le_refl _))
  have HTb : Hid (∀ W, Below w.heap.size w W → Calls Try.prog 60 #[.slice a n c] W fun e w' => e = .returned (.slice (some ⟨W.heap.size, 0, none⟩) n n) ∧ Below W.heap.size W w' ∧ W.heap.size < w'.heap.size ∧ PartB w' W.heap.size n n bs) := fun W hW => toBufferS_any a bs n c W hn hm hsm (hb.below hW (Nat.le_refl _))
  clear hnp hmp hpo hrd hn hm hsm hb
  go_enter Try.func19, Try.ntmps19
  go_upto_region 2 with (fail)
  generalize hY : World.alloc _ _ = Y
  have gY : Below w.heap.size w Y := by rw [← hY]; go_grown
  have b0 : Y.cell? ⟨w.heap.size, 0, none⟩ = some (.slice pa np pc) := by rw [← hY]; simp [go_sem]
  have b1 : Y.cell? ⟨w.heap.size, 1, none⟩ = some (.slice a n c) := by rw [← hY]; simp [go_sem]
  have r0 : Y.cell? ⟨w.heap.size + 1, 0, none⟩ = some (.slice none 0 0) := by rw [← hY]; simp [go_sem]
  have r1 : Y.cell? ⟨w.heap.size + 1, 1, none⟩ = some (.slice none 0 0) := by rw [← hY]; simp [go_sem]
  have rf0 : Y.frozen? ⟨w.heap.size + 1, 0, none⟩ = false := by rw [← hY]; simp [go_sem]
  have rf1 : Y.frozen? ⟨w.heap.size + 1, 1, none⟩ = false := by rw [← hY]; simp [go_sem]
  have o0 : Y.cell? ⟨w.heap.size + 1 + 1, 0, none⟩ = some (.slice none 0 0) := by rw [← hY]; simp [go_sem]
  have o1 : Y.cell? ⟨w.heap.size + 1 + 1, 1, none⟩ = some (.slice none 0 0) := by rw [← hY]; simp [go_sem]
  have of0 : Y.frozen? ⟨w.heap.size + 1 + 1, 0, none⟩ = false := by rw [← hY]; simp [go_sem]
  have of1 : Y.frozen? ⟨w.heap.size + 1 + 1, 1, none⟩ = false := by rw [← hY]; simp [go_sem]
  clear hY
  obtain ⟨tb, htb⟩ : ∃ tb, w.heap.size = tb := ⟨_, rfl⟩
  have htw : w.heap.size ≤ tb := by omega
  rw [htb] at b0 b1 r0 r1 rf0 rf1 o0 o1 of0 of1
  simp only [htb]
  clear htb
  have hl2 : tb + 1 + 1 < Y.heap.size := World.block_lt_of_cell? _ _ o0
  have hto := HT.out Y gY
  go_wp2_with fail
  refine hto.mono ?_
  rintro e W1 ⟨rfl, g1, hg1, F, P1⟩
  have b1 := (g1.cell (p := ⟨tb, 1, none⟩) (by show tb < _; omega)).trans b1
  have r0 := (g1.cell (p := ⟨tb + 1, 0, none⟩) (by show tb + 1 < _; omega)).trans r0
  have r1 := (g1.cell (p := ⟨tb + 1, 1, none⟩) (by show tb + 1 < _; omega)).trans r1
  have rf0 := (g1.frozen (p := ⟨tb + 1, 0, none⟩) (by show tb + 1 < _; omega)).trans rf0
  have rf1 := (g1.frozen (p := ⟨tb + 1, 1, none⟩) (by show tb + 1 < _; omega)).trans rf1
  have o0 := (g1.cell (p := ⟨tb + 1 + 1, 0, none⟩) hl2).trans o0
  have o1 := (g1.cell (p := ⟨tb + 1 + 1, 1, none⟩) hl2).trans o1
  have of0 := (g1.frozen (p := ⟨tb + 1 + 1, 0, none⟩) hl2).trans of0
  have of1 := (g1.frozen (p := ⟨tb + 1 + 1, 1, none⟩) hl2).trans of1
  have g := gY.trans (g1.mono gY.size)
  have hl3 : tb + 3 ≤ Y.heap.size := by omega
  clear b0 hto g1 gY HT
  generalize Y.heap.size = p1 at P1 hg1 hl3 hl2 ⊢
  go_upto_region 3 with (fail)
  have t2 : Turned tb (tb + 3) W1 (W1.setCell ⟨tb + 1 + 1, 0, none⟩ (.slice (some ⟨p1, 0, none⟩) np np)) := (Turned.refl _ _ W1).setCell (p := ⟨tb + 1 + 1, 0, none⟩) (by show tb ≤ tb + 1 + 1; omega) (by show tb + 1 + 1 < tb + 3; omega) _
  obtain ⟨Y2, hY2⟩ : ∃ Y2, W1.setCell ⟨tb + 1 + 1, 0, none⟩ (.slice (some ⟨p1, 0, none⟩) np np) = Y2 := ⟨_, rfl⟩
  have c1 : Y2.cell? ⟨tb, 1, none⟩ = some (.slice a n c) := by rw [← hY2]; simp [go_sem, b1]
  have d0 : Y2.cell? ⟨tb + 1, 0, none⟩ = some (.slice none 0 0) := by rw [← hY2]; simp [go_sem, r0]
  have d1 : Y2.cell? ⟨tb + 1, 1, none⟩ = some (.slice none 0 0) := by rw [← hY2]; simp [go_sem, r1]
  have df0 : Y2.frozen? ⟨tb + 1, 0, none⟩ = false := by rw [← hY2, World.frozen?_setCell]; exact rf0
  have df1 : Y2.frozen? ⟨tb + 1, 1, none⟩ = false := by rw [← hY2, World.frozen?_setCell]; exact rf1
  have e0 : Y2.cell? ⟨tb + 1 + 1, 0, none⟩ = some (.slice (some ⟨p1, 0, none⟩) np np) := by rw [← hY2]; simp [go_sem, o0]
  have e1 : Y2.cell? ⟨tb + 1 + 1, 1, none⟩ = some (.slice none 0 0) := by rw [← hY2]; simp [go_sem, o1]
  have ef1 : Y2.frozen? ⟨tb + 1 + 1, 1, none⟩ = false := by rw [← hY2, World.frozen?_setCell]; exact of1
  rw [hY2] at t2
  try rw [hY2]
  have P2 := P1.turned t2 hl3 hg1
  have hg2 : p1 < Y2.heap.size := Nat.lt_of_lt_of_le hg1 t2.size
  have g2 : Below w.heap.size w Y2 := g.trans (t2.toBelow g.size htw)
  clear hY2 t2 g b1 r0 r1 rf0 rf1 o0 o1 of0 of1 P1 hg1
  have hto := HTb.out Y2 g2
  go_wp2_with fail
  refine hto.mono ?_
  rintro e W3 ⟨rfl, g3, hg3, B3⟩
  have P3 := P2.below hg2 g3
  have hp3 : p1 < W3.heap.size := Nat.lt_of_lt_of_le hg2 g3.size
  have hlo : tb + 3 ≤ Y2.heap.size := by omega
  have d0 := (g3.cell (p := ⟨tb + 1, 0, none⟩) (by show tb + 1 < _; omega)).trans d0
  have d1 := (g3.cell (p := ⟨tb + 1, 1, none⟩) (by show tb + 1 < _; omega)).trans d1
  have df0 := (g3.frozen (p := ⟨tb + 1, 0, none⟩) (by show tb + 1 < _; omega)).trans df0
  have df1 := (g3.frozen (p := ⟨tb + 1, 1, none⟩) (by show tb + 1 < _; omega)).trans df1
  have e0 := (g3.cell (p := ⟨tb + 1 + 1, 0, none⟩) (by show tb + 1 + 1 < _; omega)).trans e0
  have e1 := (g3.cell (p := ⟨tb + 1 + 1, 1, none⟩) (by show tb + 1 + 1 < _; omega)).trans e1
  have ef1 := (g3.frozen (p := ⟨tb + 1 + 1, 1, none⟩) (by show tb + 1 + 1 < _; omega)).trans ef1
  have g := g2.trans (g3.mono g2.size)
  clear hto g2 g3 c1 P2 hg2 HTb
  generalize Y2.heap.size = p2 at B3 hlo hg3 ⊢
  have HFin : Hid (∀ W, Turned tb (tb + 3) W3 W → Below w.heap.size w W ∧ p1 < W.heap.size ∧ p2 < W.heap.size ∧ PartP W p1 np np ps F ∧ PartB W p2 n n bs) := fun W ht => ⟨g.trans (ht.toBelow g.size htw), Nat.lt_of_lt_of_le hp3 ht.size, Nat.lt_of_lt_of_le hg3 ht.size, P3.turned ht hl3 hp3, B3.turned ht hlo hg3⟩
  clear P3 B3 g
  go_wp2_with fail
  refine bodyPost_ret (v := .agg #[.slice (some ⟨p1, 0, none⟩) np np, .slice (some ⟨p2, 0, none⟩) n n]) (by simp [results, Try.results19, go_sem, *]) rfl ?_
  refine ⟨p1, p2, F, rfl, HFin.out _ ?_⟩
  exact (((Turned.refl _ _ W3).setCell (p := ⟨tb + 1 + 1, 1, none⟩) (by show tb ≤ tb + 1 + 1; omega) (by show tb + 1 + 1 < tb + 3; omega) _).setCell (p := ⟨tb + 1, 0, none⟩) (by show tb ≤ tb + 1; omega) (by show tb + 1 < tb + 3; omega) _).setCell (p := ⟨tb + 1, 1, none⟩) (by show tb ≤ tb + 1; omega) (by show tb + 1 < tb + 3; omega) _

set_option maxHeartbeats 2000000 in
theorem eqMiner_same (x y u v : Nat) (ps : List (List Int)) (np : Nat) (F G : Nat → Nat) (c d : Nat) (bs : List Bf) (n : Nat) (w : World) (hnp : ps.length = np) (hmp : np ≤ 9223372036854775807) (hpo : PgOk ps) (hx : PartP w x np np ps F) (hy : PartP w y np np ps G) (hxl : x < w.heap.size) (hyl : y < w.heap.size) (hn : bs.length = n) (hm : n ≤ 9223372036854775807) (hok : BfOk bs) (hu : BfRead w (some ⟨u, 0, none⟩) bs) (hv : BfRead w (some ⟨v, 0, none⟩) bs) :
    Calls Try.prog 21 #[.agg #[.slice (some ⟨x, 0, none⟩) np np, .slice (some ⟨u, 0, none⟩) n c], .agg #[.slice (some ⟨y, 0, none⟩) np np, .slice (some ⟨v, 0, none⟩) n d]] w fun e w' => e = .returned (.bool true) ∧ Below w.heap.size w w' := by
  obtain ⟨X, hX⟩ : ∃ X, (w.alloc (.cells #[.slice (some ⟨x, 0, none⟩) np np, .slice (some ⟨u, 0, none⟩) n c] 43)).alloc (.cells #[.slice (some ⟨y, 0, none⟩) np np, .slice (some ⟨v, 0, none⟩) n d] 43) = X := ⟨_, rfl⟩
  have gX : Below w.heap.size w X := by rw [← hX]; go_grown
  have p0 : X.cell? ⟨w.heap.size, 0, none⟩ = some (.slice (some ⟨x, 0, none⟩) np np) := by rw [← hX]; simp [go_sem]
  have p1 : X.cell? ⟨w.heap.size, 1, none⟩ = some (.slice (some ⟨u, 0, none⟩) n c) := by rw [← hX]; simp [go_sem]
  have q0 : X.cell? ⟨w.heap.size + 1, 0, none⟩ = some (.slice (some ⟨y, 0, none⟩) np np) := by rw [← hX]; simp [go_sem]
  have q1 : X.cell? ⟨w.heap.size + 1, 1, none⟩ = some (.slice (some ⟨v, 0, none⟩) n d) := by rw [← hX]; simp [go_sem]
  have hb0 : w.heap.size < X.heap.size := World.block_lt_of_cell? _ _ p0
  have hb1 : w.heap.size + 1 < X.heap.size := World.block_lt_of_cell? _ _ q0
  have hcon := eqByteSS_same x y ps np F G X hnp hmp hpo (hx.below hxl gX) (hy.below hyl gX) (Nat.lt_of_lt_of_le hxl gX.size) (Nat.lt_of_lt_of_le hyl gX.size)
  have HC : Hid (∀ W, Below X.heap.size X W → Calls Try.prog 63 #[.slice (some ⟨u, 0, none⟩) n c, .slice (some ⟨v, 0, none⟩) n d] W fun e w' => e = .returned (.bool true) ∧ Below W.heap.size W w') := fun W hW => eqBufferS_same _ _ bs n c d W hn hm hok (hu.below (gX.trans (hW.mono gX.size)) (Nat.le_refl _)) (hv.below (gX.trans (hW.mono gX.size)) (Nat.le_refl _))
  clear hnp hmp hpo hx hy hxl hyl hn hm hok hu hv
  go_enter Try.func21, Try.ntmps21
  go_wp2_with (go_at_call 27; refine hcon.mono ?_)
  rintro e W1 ⟨rfl, g1⟩
  have p1 := (g1.cell hb0).trans p1
  have q1 := (g1.cell hb1).trans q1
  have hcon2 := HC.out W1 g1
  have g := gX.trans (g1.mono gX.size)
  clear p0 q0 hcon g1 gX hX HC
  go_wp2_with (go_at_call 63; refine hcon2.mono ?_)
  rintro e W2 ⟨rfl, g2⟩
  have g := g.trans (g2.mono g.size)
  clear p1 q1 hcon2 g2
  go_wp2_with fail
  go_ret
  exact ⟨rfl, g⟩

/-- A miner that came in. -/
structure IsMiner (w : World) (pa : Option Addr) (np : Nat) (ps : List (List Int)) (a : Option Addr) (n : Nat) (bs : List Bf) : Prop where
  p : IsPages w pa np ps
  eq : bs.length = n
  ln : n ≤ 9223372036854775807
  ok : BfOk bs
  b : BfRead w a bs
/-- What the law keeps. -/
structure MfS (D : World) (ab xb : Nat) (pa : Option Addr) (np pc : Nat) (a : Option Addr) (n c : Nat) (g1 g2 : Nat) (F : Nat → Nat) (ps : List (List Int)) (bs : List Bf) (V : World) : Prop where
  a : MnC V ab pa np pc a n c
  x : MnC V xb (some ⟨g1, 0, none⟩) np np (some ⟨g2, 0, none⟩) n n
  l : g1 < V.heap.size
  p : PartP V g1 np np ps F
  b : BfRead V (some ⟨g2, 0, none⟩) bs
  g : Below D.heap.size D V
theorem MfS.up {D V V' : World} {ab xb : Nat} {pa a : Option Addr} {np pc n c g1 g2 : Nat} {F : Nat → Nat} {ps : List (List Int)} {bs : List Bf} (h : MfS D ab xb pa np pc a n c g1 g2 F ps bs V) (hb : Below V.heap.size V V') : MfS D ab xb pa np pc a n c g1 g2 F ps bs V' :=
  ⟨h.a.below hb, h.x.below hb, Nat.lt_of_lt_of_le h.l hb.size, h.p.below h.l hb, h.b.below hb (Nat.le_refl _), h.g.trans (hb.mono h.g.size)⟩

set_option maxHeartbeats 8000000 in
theorem lawMinerFault_any (pa : Option Addr) (np pc : Nat) (ps : List (List Int)) (a : Option Addr) (n c : Nat) (bs : List Bf) (w : World) (h : IsMiner w pa np ps a n bs) :
    Calls Try.prog 4 #[.agg #[.slice pa np pc, .slice a n c]] w fun e w' => e = .returned (.bool true) ∧ Below w.heap.size w w' := by
  obtain ⟨hP, hn0, hm, hok, hb⟩ := h
  have HNp : Hid (ps.length = np) := hP.eq
  have hmp : np ≤ 9223372036854775807 := hP.ln
  have HN : Hid (bs.length = n) := hn0
  have HO : Hid (BfOk bs) := hok
  have HPw : Hid (∀ W, Below w.heap.size w W → IsPages W pa np ps) := fun W hW => ⟨hP.rd.below hW (Nat.le_refl _), hP.eq, hP.ln, hP.sz⟩
  have HBw : Hid (∀ W, Below w.heap.size w W → BfRead W a bs) := fun W hW => hb.below hW (Nat.le_refl _)
  clear hP hn0 hok hb
  go_enter Try.func4, Try.ntmps4
  go_upto_region 2 with (fail)
  generalize hY : World.alloc _ _ = Y
  have gY : Below w.heap.size w Y := by rw [← hY]; go_grown
  have hA : MnC Y w.heap.size pa np pc a n c := by rw [← hY]; exact ⟨by simp [go_sem], by simp [go_sem]⟩
  clear hY
  obtain ⟨ab, hab⟩ : ∃ ab, w.heap.size = ab := ⟨_, rfl⟩
  rw [hab] at hA
  simp only [hab]
  clear hab
  have hsz := szMiner_any pa ps np pc a bs n c Y (HPw.out Y gY) HN.out hm HO.out (HBw.out Y gY)
  obtain ⟨m0, m1⟩ := hA
  go_wp2_with fail
  refine hsz.mono ?_
  rintro e W1 ⟨⟨r, rfl, hl⟩, g1⟩
  have hA : MnC W1 ab pa np pc a n c := MnC.below (W := Y) ⟨m0, m1⟩ g1
  have g := gY.trans (g1.mono gY.size)
  clear hsz m0 m1 g1 gY
  by_cases h0 : r < 0
  · clear hl
    go_wp2_with fail
    go_ret
    exact ⟨rfl, g⟩
  obtain ⟨hnp1, hpo, hn1, hsm⟩ := hl (by omega)
  have HPo : Hid (PgOk ps) := hpo
  have h0 : ¬ (r < 0) := h0
  clear hl
  have HTo : Hid (∀ W, Below w.heap.size w W → Calls Try.prog 19 #[.agg #[.slice pa np pc, .slice a n c]] W fun e w' => ∃ (g1 g2 : Nat) (F : Nat → Nat), e = .returned (.agg #[.slice (some ⟨g1, 0, none⟩) np np, .slice (some ⟨g2, 0, none⟩) n n]) ∧ Below W.heap.size W w' ∧ g1 < w'.heap.size ∧ g2 < w'.heap.size ∧ PartP w' g1 np np ps F ∧ PartB w' g2 n n bs) := fun W hW => toMiner_any pa ps np pc a bs n c W HNp.out hnp1 hpo (HPw.out W hW).rd HN.out hn1 hsm (HBw.out W hW)
  have HSp : Hid (∀ (g1 g2 : Nat) (F : Nat → Nat) (W : World), PartP W g1 np np ps F → PartB W g2 n n bs → Calls Try.prog 18 #[.agg #[.slice (some ⟨g1, 0, none⟩) np np, .slice (some ⟨g2, 0, none⟩) n n]] W fun e w' => e = .returned (.int .i64 (mnQ ps bs)) ∧ Below W.heap.size W w') := fun g1 g2 F W h1 h2 => specMinerFault_any _ ps np np _ bs n n W HNp.out hmp hpo (h1.reads HNp.out) HN.out hm HO.out (h2.read HN.out)
  have HIm : Hid (∀ (g1 g2 : Nat) (F : Nat → Nat) (W : World), PartP W g1 np np ps F → PartB W g2 n n bs → Calls Try.prog 20 #[.agg #[.slice (some ⟨g1, 0, none⟩) np np, .slice (some ⟨g2, 0, none⟩) n n]] W fun e w' => e = .returned (.int .i64 (mnQ ps bs)) ∧ Below W.heap.size W w') := fun g1 g2 F W h1 h2 => implMinerFault_any _ ps np np _ bs n n W HNp.out hmp hpo (h1.reads HNp.out) HN.out (Nat.le_refl _) hm HO.out (h2.read HN.out)
  generalize mnQ ps bs = q at HSp HIm
  clear HPw HBw hpo hsm hnp1 hn1
  have hto := HTo.out W1 g
  obtain ⟨m0, m1⟩ := hA
  go_wp2_with fail
  refine hto.mono ?_
  rintro e W2 ⟨g1, g2, F, rfl, gg, _, _, P2, B2⟩
  have hA : MnC W2 ab pa np pc a n c := MnC.below (W := W1) ⟨m0, m1⟩ gg
  have g := g.trans (gg.mono g.size)
  clear m0 m1 gg hto
  have hsp := HSp.out g1 g2 F W2 P2 B2
  clear P2 B2 HSp
  go_wp2_with fail
  refine hsp.mono ?_
  rintro e W3 ⟨rfl, gg⟩
  have hA := hA.below gg
  have g := g.trans (gg.mono g.size)
  clear gg hsp
  have hto := HTo.out W3 g
  obtain ⟨m0, m1⟩ := hA
  go_wp2_with fail
  refine hto.mono ?_
  rintro e W4 ⟨g1, g2, F, rfl, gg, hg1, hg2, P4, B4⟩
  have hA : MnC W4 ab pa np pc a n c := MnC.below (W := W3) ⟨m0, m1⟩ gg
  have g := g.trans (gg.mono g.size)
  clear m0 m1 gg hto
  go_upto_region 7 with (fail)
  generalize hY : World.alloc _ _ = Y5
  have gY : Below W4.heap.size W4 Y5 := by rw [← hY]; go_grown
  have hX : MnC Y5 W4.heap.size (some ⟨g1, 0, none⟩) np np (some ⟨g2, 0, none⟩) n n := by rw [← hY]; exact ⟨by simp [go_sem], by simp [go_sem]⟩
  have hS : MfS w ab W4.heap.size pa np pc a n c g1 g2 F ps bs Y5 := ⟨hA.below gY, hX, Nat.lt_of_lt_of_le hg1 gY.size, P4.below hg1 gY, (B4.read HN.out).below gY (Nat.le_refl _), g.trans (gY.mono g.size)⟩
  have him := HIm.out g1 g2 F Y5 (P4.below hg1 gY) (B4.below gY hg2)
  clear hY gY hX hA P4 B4 g hg1 hg2 HIm
  generalize W4.heap.size = xb at hS ⊢
  obtain ⟨m0, m1⟩ := hS.x
  go_wp2_with fail
  refine him.mono ?_
  rintro e W6 ⟨rfl, gg⟩
  have hS := hS.up gg
  clear m0 m1 gg him
  go_upto_region 10 with (fail)
  go_cut [26] from 7 (fun s wc => s = .bool false ∧ Below w.heap.size w wc)
  case first =>
    refine wp_region_held_drew (S := MfS w ab xb pa np pc a n c g1 g2 F ps bs) (by kernel_rfl) (hS.up (Below.refl _ _).drew) (fun hHeld => ?_)
    clear hS
    generalize W6.drew = D at hHeld ⊢
    refine wpAnyH_take (i := 0) (v := ?v1) rfl (by kernel_rfl) (by kernel_rfl) (by kernel_rfl) (fun _ _ _ h => h) (Or.inl ⟨by kernel_rfl, ?h1⟩) hHeld ?_
    case h1 => intro u hSw; (obtain ⟨m0, m1⟩ := hSw.x); clear hSw; go_simp; try with_reducible rfl
    try simp only [List.getElem_toArray]
    try simp only [List.getElem_cons_succ]
    try simp only [List.getElem_cons_zero]
    try simp only [Act.put]
    try simp only [List.setIfInBounds_toArray]
    try simp only [List.set]
    refine wpAnyH_take (i := 1) (v := ?v2) rfl (by kernel_rfl) (by kernel_rfl) (by kernel_rfl) (fun _ _ _ h => h) (Or.inl ⟨by kernel_rfl, ?h2⟩) hHeld ?_
    case h2 => intro u hSw; (obtain ⟨m0, m1⟩ := hSw.a); clear hSw; go_simp; try with_reducible rfl
    try simp only [List.getElem_toArray]
    try simp only [List.getElem_cons_succ]
    try simp only [List.getElem_cons_zero]
    try simp only [Act.put]
    try simp only [List.setIfInBounds_toArray]
    try simp only [List.set]
    refine wpAnyH_ready (rs := [2]) (by kernel_rfl) (by simp) ?_
    refine AllReadyH.cons rfl (fun K hK => ?_) AllReadyH.nil
    go_simp
    go_wp2_with (go_at_call 19; refine (HTo.out _ hHeld.g).mono ?_; rintro e W2 ⟨g1', g2', F', rfl, gg, hl', _, P', B'⟩)
    refine hK.out _ _ (hHeld.up gg) (fun hHeld => ?_)
    clear hK K
    clear gg
    try simp only [Act.put]
    try simp only [List.setIfInBounds_toArray]
    try simp only [List.set]
    refine wpAnyH_ready (rs := [3]) (by kernel_rfl) (by simp) ?_
    refine AllReadyH.cons rfl (fun K hK => ?_) AllReadyH.nil
    go_simp
    go_wp2_with (go_at_call 21; refine (eqMiner_same _ _ _ _ ps np F F' _ _ bs n _ HNp.out hmp HPo.out hHeld.p P' hHeld.l hl' HN.out hm HO.out hHeld.b (B'.read HN.out)).mono ?_; rintro e W3 ⟨rfl, gg⟩)
    refine hK.out _ _ (hHeld.up gg) (fun hHeld => ?_)
    clear hK K
    clear gg
    try simp only [Act.put]
    try simp only [List.setIfInBounds_toArray]
    try simp only [List.set]
    refine wpAnyH_take (i := 4) (v := ?v3) rfl (by kernel_rfl) (by kernel_rfl) (by kernel_rfl) (fun _ _ _ h => h) (Or.inl ⟨by kernel_rfl, ?h3⟩) hHeld ?_
    case h3 => intro u hSw; clear hSw; go_simp; try with_reducible rfl
    try simp only [List.getElem_toArray]
    try simp only [List.getElem_cons_succ]
    try simp only [List.getElem_cons_zero]
    try simp only [Act.put]
    try simp only [List.setIfInBounds_toArray]
    try simp only [List.set]
    refine wpAnyH_done (by kernel_rfl) ?_ _
    go_wp2_with fail
    go_meet
    case rel => exact ⟨rfl, hHeld.g⟩
  case rest =>
  clear hS
  obtain ⟨rfl, g⟩ := hcut
  go_wp2_with fail
  go_ret
  exact ⟨rfl, g⟩

end Go.Proofs.Ytonngopnhpmjaaa

/-
  Miners that come in.
-/
namespace Go.Proofs.Ytonngopnhpmjaaa
open Go.ChangeShapes Go.WideShapes Go.ChangeAt Go.RowKit Go.Maps Go.Joins
set_option linter.unusedVariables false

instance : Inhabited Bf := ⟨⟨0, []⟩⟩
theorem list_of_funB (q : Nat → Bf) (n : Nat) {i : Nat} {x : Bf} (h : ((List.range n).map q)[i]? = some x) : i < n ∧ x = q i := by
  obtain ⟨hi, e⟩ := List.getElem?_eq_some_iff.1 h
  have hi' : i < n := by simpa using hi
  refine ⟨hi', ?_⟩
  rw [← e]; simp

set_option maxRecDepth 100000 in
theorem open_bufs {H : Type} {enc : TypeId × Value → H} {W : World} {base : Nat} {held : Bool} {fuel : Nat} {a : Option Addr} {len cap : Nat} {x : DataW H × List MemPlace}
    (h : DataW.trod enc Try.prog W base (fun _ => true) held fuel 36 [.slice a len cap] = some x) : ∃ bs, bs.length = len ∧ len ≤ 9223372036854775807 ∧ BfOk bs ∧ BfRead W a bs := by
  have hml : maxLen = 9223372036854775807 := by decide
  rcases Go.Deep.open_slice_pairs Try.underlying36 Try.underlying154 (by kernel_rfl) rfl rfl (by kernel_rfl) (by kernel_rfl) h with ⟨hcs, _⟩ | ⟨y, l, c, m, n, V0, V1, D0, D1, P0, P1, hcs, hb, hl, hm, hmm, _, hcell⟩
  · simp only [List.cons.injEq, Value.slice.injEq, and_true] at hcs
    obtain ⟨rfl, rfl, rfl⟩ := hcs
    exact ⟨[], rfl, by omega, fun x hx => by simp at hx, .inl rfl⟩
  · simp only [List.cons.injEq, Value.slice.injEq, and_true] at hcs
    obtain ⟨rfl, rfl, rfl⟩ := hcs
    simp only [if_true] at hmm
    subst hmm
    have each : ∀ i, i < len → ∃ q : (Bf × Option Addr × Nat), V0 i = .int .i64 q.1.tx ∧ V1 i = .slice q.2.1 q.1.cs.length q.2.2 ∧ IsChgs W q.2.1 q.1.cs.length q.1.cs := by
      intro i hi
      obtain ⟨_, _, t0, t1⟩ := hcell i (by omega)
      obtain ⟨p, e0, _, hp⟩ := DataW.trod_int Try.underlying2 t0
      simp only [List.cons.injEq, and_true] at e0
      obtain ⟨a1, l1, c1, e1⟩ : ∃ a1 l1 c1, V1 i = .slice a1 l1 c1 := by
        rcases Go.Deep.open_slice Try.underlying73 t1 with ⟨hcs, _⟩ | ⟨y, l, c, m, n, Dd, Pl, hcs, _⟩
        · simp only [List.cons.injEq, and_true] at hcs
          exact ⟨_, _, _, hcs⟩
        · simp only [List.cons.injEq, and_true] at hcs
          exact ⟨_, _, _, hcs⟩
      rw [e1] at t1
      obtain ⟨cs, hc⟩ := open_chgs t1
      have he := hc.eq
      subst he
      exact ⟨(⟨p, cs⟩, a1, c1), e0, e1, hc⟩
    obtain ⟨q, hq⟩ := Go.Deep.choose_lt each
    refine ⟨(List.range len).map (fun i => (q i).1), by simp, by omega, ?_, ?_⟩
    · intro x hx
      obtain ⟨i, hi, rfl⟩ := List.mem_map.1 hx
      have hi' : i < len := by simpa using hi
      exact ⟨(hq i hi').2.2.ln, (hq i hi').2.2.sz⟩
    · by_cases h0 : len = 0
      · subst h0; exact .inl rfl
      · obtain ⟨b, off, spot⟩ := y
        have hc0 := (hcell 0 (by omega)).1
        have hspot : spot = none := by simpa [Addr.add] using World.cell?_spot hc0
        subst hspot
        have ea : ∀ i, (⟨b, off, none⟩ : Addr).add i = ⟨b, off + i, none⟩ := by intro i; unfold Addr.add; split <;> simp_all
        refine .inr ⟨b, off, rfl, fun i x hx => ?_⟩
        obtain ⟨hi, rfl⟩ := list_of_funB (fun i => (q i).1) len hx
        obtain ⟨c0, c1, _, _⟩ := hcell i (by omega)
        obtain ⟨q0, q1, q2⟩ := hq i hi
        rw [ea] at c0 c1
        exact ⟨(q i).2.1, (q i).2.2, by rw [c0, q0], by rw [← q1, ← c1]; rfl, q2.rd⟩

set_option maxRecDepth 100000 in
theorem open_slice_form {H : Type} {enc : TypeId × Value → H} {W : World} {base : Nat} {held : Bool} {fuel : Nat} {T E : TypeId} {v : Value} {x : DataW H × List MemPlace} (hu : Try.prog.underlying T = some (.slice E))
    (h : DataW.trod enc Try.prog W base (fun _ => true) held fuel T [v] = some x) : ∃ a l c, v = .slice a l c := by
  rcases Go.Deep.open_slice hu h with ⟨hcs, _⟩ | ⟨y, l, c, m, n, Dd, Pl, hcs, _⟩
  · simp only [List.cons.injEq, and_true] at hcs
    exact ⟨_, _, _, hcs⟩
  · simp only [List.cons.injEq, and_true] at hcs
    exact ⟨_, _, _, hcs⟩

end Go.Proofs.Ytonngopnhpmjaaa
