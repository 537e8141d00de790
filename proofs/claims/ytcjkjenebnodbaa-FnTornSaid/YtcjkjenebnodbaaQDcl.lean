/-
  The contract of DrawCrashLog.
-/
import Derived.Test.YtcjkjenebnodbaaQLbn
import Derived.Test.YtcjkjenebnodbaaQLgp
import Derived.Test.YtcjkjenebnodbaaQLft

namespace Go.Proofs.Ytcjkjenebnodbaa
open Go.RowKit
set_option linter.unusedVariables false

theorem LgAt.turnedD {V W : World} {b lo hi : Nat} {x y : Option Addr} {n c m d : Nat} (h : LgAt V b x n c y m d) (ht : Dr.Turned lo hi V W) (hn : b < lo ∨ hi ≤ b) : LgAt W b x n c y m d := ⟨ht.cell h.c0 hn, ht.cell h.c1 hn⟩
def DcPost (w : World) (e : Ending) (w' : World) : Prop := ∃ x y xs ys n c m d k, e = .returned (.tuple #[.agg #[.slice x n c, .slice y m d], .int .i64 k]) ∧ Lb w.heap.size 18000 w' x y xs ys n c m d ∧ Below w.heap.size w w'

set_option maxRecDepth 20000 in
set_option maxHeartbeats 4000000 in
theorem drawCrashLog_any (a : Option Addr) (n c : Nat) (zs : List Int) (w : World) (rd : Dr.Reads w a zs) (hn : zs.length = n) (hm : n ≤ 1048576) (hz : ∀ z ∈ zs, 0 ≤ z ∧ z ≤ 255) :
    Calls Try.prog 25 #[.slice a n c] w fun e w' => DcPost w e w' := by
  go_enter Try.func25, Try.ntmps25
  go_upto_region 1 with (fail)
  generalize hY : World.alloc _ _ = Y
  have hO : Lc Y w.heap.size (.slice none 0 0) (.slice none 0 0) := by rw [← hY]; exact ⟨by simp [go_sem], by simp [go_sem], by simp [go_sem], by simp [go_sem]⟩
  have g0 : Below w.heap.size w Y := by rw [← hY]; go_grown
  have rd := rd.below g0 (Nat.le_refl _)
  clear hY
  go_wp2_with fail
  refine (Dr.l1Source_any a n c zs _ rd hn hm hz).mono ?_
  rintro e w1 ⟨rfl, g1, hlt, hS⟩
  have hOl := hO.lt
  have hO := hO.up g1
  have g0 := g0.trans (g1.mono (by have := g0.size; omega))
  generalize Y.heap.size = b at hS hlt hOl ⊢
  clear g1 rd
  go_wp2_with fail
  refine (l5Bent_any b a n c zs 0 _ hS (by omega)).mono ?_
  rintro e w2 ⟨⟨x, y, xs, ys, nn, cc, m, d, rfl, hB, hT⟩, ⟨j, hj, hS⟩⟩
  have hO := hO.turned hT (.inl (by omega))
  have hsz2 := hT.size
  have g0 : Below w.heap.size w w2 := g0.trans (hT.toBelow (by omega) (by omega))
  clear hT
  go_upto_region 3 with (fail)
  generalize hY : World.alloc _ _ = Y2
  have hL : LgAt Y2 w2.heap.size x nn cc y m d := by rw [← hY]; exact ⟨by simp [go_sem], by simp [go_sem]⟩
  have g2 : Below w2.heap.size w2 Y2 := by rw [← hY]; go_grown
  have hO := hO.up g2
  have hS := hS.below g2
  have hB := hB.turned (r := 0) (Dr.Turned.ofBelow g2)
  have g0 := g0.trans (g2.mono g0.size)
  have hlb : b < w2.heap.size := by omega
  have hsz := hB.sz
  have hwb : w.heap.size < b := hOl
  have L1 := hL.c1
  generalize w1.heap.size = lo at hB hlt hsz2
  generalize w2.heap.size = lb at hL hlb hsz2 L1 ⊢
  clear hY g2
  go_upto_region 4 with (fail)
  clear L1
  have hL' := hL.turnedD (Dr.Turned.ofBelow (lo := 0) (hi := 0) (Below.refl _ Y2).drew) (.inr (by omega))
  refine wp_region_held_drew (S := fun V => LgAt V lb x nn cc y m d) (by kernel_rfl) hL' (fun hHeld => ?_)
  have gq := (Below.refl Y2.heap.size Y2).drew
  have hO := hO.up gq
  have hS := hS.below gq
  have hB := hB.turned (r := 0) (Dr.Turned.ofBelow gq)
  have g0 := g0.drew
  generalize Y2.drew = D at hHeld hO hS hB g0 ⊢
  clear hL hL' gq
  have hwr : IntKind.i64.wrap ((m : Int) + 1) = (m : Int) + 1 := by simp [IntKind.wrap, IntKind.bits, IntKind.signed]; omega
  refine wpAnyH_take (i := 0) (v := ?v1) rfl (by kernel_rfl) (by kernel_rfl) (by kernel_rfl) (fun _ _ _ h => h) (Or.inl ⟨by kernel_rfl, ?h1⟩) hHeld ?_
  case h1 => intro u hSw; obtain ⟨q0, q1⟩ := hSw; go_simp; try with_reducible rfl
  try simp only [List.getElem_toArray]
  try simp only [List.getElem_cons_succ]
  try simp only [List.getElem_cons_zero]
  try simp only [Act.put]
  try simp only [List.setIfInBounds_toArray]
  try simp only [List.set]
  refine wpAnyH_take (i := 1) (v := ?v2) rfl (by kernel_rfl) (by kernel_rfl) (by kernel_rfl) (fun _ _ _ h => h) (Or.inl ⟨by kernel_rfl, ?h2⟩) hHeld ?_
  case h2 => intro u hSw; (try dsimp only at hSw); go_simp; try with_reducible rfl
  try simp only [List.getElem_toArray]
  try simp only [List.getElem_cons_succ]
  try simp only [List.getElem_cons_zero]
  try simp only [Act.put]
  try simp only [List.setIfInBounds_toArray]
  try simp only [List.set]
  refine wpAnyH_take (i := 2) (v := ?v3) rfl (by kernel_rfl) (by kernel_rfl) (by kernel_rfl) (fun _ _ _ h => h) (Or.inl ⟨by kernel_rfl, ?h3⟩) hHeld ?_
  case h3 => intro u hSw; (try dsimp only at hSw); go_simp; try with_reducible rfl
  try simp only [List.getElem_toArray]
  try simp only [List.getElem_cons_succ]
  try simp only [List.getElem_cons_zero]
  try simp only [Act.put]
  try simp only [List.setIfInBounds_toArray]
  try simp only [List.set]
  refine wpAnyH_take (i := 3) (v := ?v4) rfl (by kernel_rfl) (by kernel_rfl) (by kernel_rfl) (fun _ _ _ h => h) (Or.inl ⟨by kernel_rfl, ?h4⟩) hHeld ?_
  case h4 => intro u hSw; (try dsimp only at hSw); go_simp; try with_reducible rfl
  try simp only [List.getElem_toArray]
  try simp only [List.getElem_cons_succ]
  try simp only [List.getElem_cons_zero]
  try simp only [Act.put]
  try simp only [List.setIfInBounds_toArray]
  try simp only [List.set]
  refine wpAnyH_take (i := 4) (v := ?v5) rfl (by kernel_rfl) (by kernel_rfl) (by kernel_rfl) (fun _ _ _ h => h) (Or.inl ⟨by kernel_rfl, ?h5⟩) hHeld ?_
  case h5 => intro u hSw; (try dsimp only at hSw); go_simp; try with_reducible rfl
  try simp only [List.getElem_toArray]
  try simp only [List.getElem_cons_succ]
  try simp only [List.getElem_cons_zero]
  try simp only [Act.put]
  try simp only [List.setIfInBounds_toArray]
  try simp only [List.set]
  refine wpAnyH_take (i := 6) (v := ?v6) rfl (by kernel_rfl) (by kernel_rfl) (by kernel_rfl) (fun _ _ _ h => h) (Or.inl ⟨by kernel_rfl, ?h6⟩) hHeld ?_
  case h6 => intro u hSw; (try dsimp only at hSw); go_simp; try with_reducible rfl
  try simp only [List.getElem_toArray]
  try simp only [List.getElem_cons_succ]
  try simp only [List.getElem_cons_zero]
  try simp only [Act.put]
  try simp only [List.setIfInBounds_toArray]
  try simp only [List.set]
  refine wpAnyH_take (i := 7) (v := ?v7) rfl (by kernel_rfl) (by kernel_rfl) (by kernel_rfl) (fun _ _ _ h => h) (Or.inl ⟨by kernel_rfl, ?h7⟩) hHeld ?_
  case h7 => intro u hSw; (try dsimp only at hSw); go_simp; try with_reducible rfl
  try simp only [List.getElem_toArray]
  try simp only [List.getElem_cons_succ]
  try simp only [List.getElem_cons_zero]
  try simp only [Act.put]
  try simp only [List.setIfInBounds_toArray]
  try simp only [List.set]
  refine wpAnyH_take (i := 8) (v := ?v8) rfl (by kernel_rfl) (by kernel_rfl) (by kernel_rfl) (fun _ _ _ h => h) (Or.inl ⟨by kernel_rfl, ?h8⟩) hHeld ?_
  case h8 => intro u hSw; (try dsimp only at hSw); go_simp; try with_reducible rfl
  try simp only [List.getElem_toArray]
  try simp only [List.getElem_cons_succ]
  try simp only [List.getElem_cons_zero]
  try simp only [Act.put]
  try simp only [List.setIfInBounds_toArray]
  try simp only [List.set]
  refine wpAnyH_take (i := 10) (v := ?v9) rfl (by kernel_rfl) (by kernel_rfl) (by kernel_rfl) (fun _ _ _ h => h) (Or.inl ⟨by kernel_rfl, ?h9⟩) hHeld ?_
  case h9 => intro u hSw; (try dsimp only at hSw); go_simp; try with_reducible rfl
  try simp only [List.getElem_toArray]
  try simp only [List.getElem_cons_succ]
  try simp only [List.getElem_cons_zero]
  try simp only [Act.put]
  try simp only [List.setIfInBounds_toArray]
  try simp only [List.set]
  refine wpAnyH_take (i := 11) (v := ?v10) rfl (by kernel_rfl) (by kernel_rfl) (by kernel_rfl) (fun _ _ _ h => h) (Or.inl ⟨by kernel_rfl, ?h10⟩) hHeld ?_
  case h10 => intro u hSw; (try dsimp only at hSw); go_simp; try with_reducible rfl
  try simp only [List.getElem_toArray]
  try simp only [List.getElem_cons_succ]
  try simp only [List.getElem_cons_zero]
  try simp only [Act.put]
  try simp only [List.setIfInBounds_toArray]
  try simp only [List.set]
  refine wpAnyH_take (i := 12) (v := ?v11) rfl (by kernel_rfl) (by kernel_rfl) (by kernel_rfl) (fun _ _ _ h => h) (Or.inl ⟨by kernel_rfl, ?h11⟩) hHeld ?_
  case h11 => intro u hSw; (try dsimp only at hSw); go_simp; try with_reducible rfl
  try simp only [List.getElem_toArray]
  try simp only [List.getElem_cons_succ]
  try simp only [List.getElem_cons_zero]
  try simp only [Act.put]
  try simp only [List.setIfInBounds_toArray]
  try simp only [List.set]
  refine wpAnyH_ready (rs := [5]) (by kernel_rfl) (by simp) ?_
  refine AllReadyH.cons rfl (fun K hK => ?_) AllReadyH.nil
  go_simp
  go_wp2_with (go_at_call 67; refine (Dr.l1Next_any b a n c zs j _ D hS (by omega) (by omega) (by omega)).mono ?_; rintro e w3 ⟨⟨r1, rfl, p1, q1⟩, ht, hS⟩)
  refine hK.out _ _ (hHeld.turnedD ht (.inr (by omega))) (fun hHeld => ?_)
  clear hK K
  have hO := hO.turned ht (.inl (by omega))
  have hB := hB.turned (r := b) ⟨ht.os, ht.tape, ht.output, ht.size, fun k hk hn => ht.block k hk (by omega)⟩
  have g0 : Below w.heap.size w w3 := g0.trans (ht.toBelow g0.size (by omega))
  clear ht
  try simp only [Act.put]
  try simp only [List.setIfInBounds_toArray]
  try simp only [List.set]
  refine wpAnyH_ready (rs := [9]) (by kernel_rfl) (by simp) ?_
  refine AllReadyH.cons rfl (fun K hK => ?_) AllReadyH.nil
  go_simp
  go_wp2_with (go_at_call 67; refine (Dr.l1Next_any b a n c zs _ _ _ hS (by omega) (by omega) (by omega)).mono ?_; rintro e w4 ⟨⟨r2, rfl, p2, q2⟩, ht, hS⟩)
  refine hK.out _ _ (hHeld.turnedD ht (.inr (by omega))) (fun hHeld => ?_)
  clear hK K
  have hO := hO.turned ht (.inl (by omega))
  have hB := hB.turned (r := b) ⟨ht.os, ht.tape, ht.output, ht.size, fun k hk hn => ht.block k hk (by omega)⟩
  have g0 : Below w.heap.size w w4 := g0.trans (ht.toBelow g0.size (by omega))
  clear ht
  try simp only [Act.put]
  try simp only [List.setIfInBounds_toArray]
  try simp only [List.set]
  refine wpAnyH_ready (rs := [13]) (by kernel_rfl) (by simp) ?_
  refine AllReadyH.cons rfl (fun K hK => ?_) AllReadyH.nil
  go_simp
  refine hK.out _ _ (hHeld.up (by go_grown)) (fun hHeld => ?_)
  clear hK K
  have hbl4 := hS.lt
  generalize hY : World.alloc _ _ = Y5
  have hV : Dr.IntsAt Y5 w4.heap.size [r1, r2, m, 0, m + 1, -1] := by
    rw [← hY]; intro k hk
    have hk6 : k < 6 := hk
    match k, hk6 with
    | 0, _ => simp [go_sem]
    | 1, _ => simp [go_sem]
    | 2, _ => simp [go_sem]
    | 3, _ => simp [go_sem]
    | 4, _ => simp [go_sem]
    | 5, _ => simp [go_sem]
  have g5 : Below w4.heap.size w4 Y5 := by rw [← hY]; go_grown
  rw [hY] at hHeld
  have hO := hO.up g5
  have hS := hS.below g5
  have hB := hB.turned (r := 0) (Dr.Turned.ofBelow g5)
  have g0 := g0.trans (g5.mono g0.size)
  clear hY g5
  try simp only [Act.put]
  try simp only [List.setIfInBounds_toArray]
  try simp only [List.set]
  refine wpAnyH_ready (rs := [14]) (by kernel_rfl) (by simp) ?_
  refine AllReadyH.cons rfl (fun K hK => ?_) AllReadyH.nil
  go_simp
  go_wp2_with (go_at_call 83; refine (Dr.l1Pick_any b w4.heap.size 6 a n c zs [r1, r2, m, 0, m + 1, -1] _ _ hS (by omega) hV rfl (by omega) (by omega) hbl4).mono ?_; rintro e w5 ⟨⟨q, hq, rfl⟩, ht, hS⟩; generalize List.getD _ _ _ = kept)
  refine hK.out _ _ (hHeld.turnedD ht (.inr (by omega))) (fun hHeld => ?_)
  clear hK K
  have hO := hO.turned ht (.inl (by omega))
  have hB := hB.turned (r := b) ⟨ht.os, ht.tape, ht.output, ht.size, fun k hk hn => ht.block k hk (by omega)⟩
  have g0 : Below w.heap.size w w5 := g0.trans (ht.toBelow g0.size (by omega))
  clear ht hV
  try simp only [Act.put]
  try simp only [List.setIfInBounds_toArray]
  try simp only [List.set]
  have T : Dr.Turned w.heap.size (w.heap.size + 1) w5 ((w5.setCell ⟨w.heap.size, 0, none⟩ (.slice x nn cc)).setCell ⟨w.heap.size, 1, none⟩ (.slice y m d)) := ((Dr.Turned.refl w.heap.size (w.heap.size + 1) w5).setCell (p := ⟨w.heap.size, 0, none⟩) (by simp) (by simp) (.slice x nn cc)).setCell (p := ⟨w.heap.size, 1, none⟩) (by simp) (by simp) (.slice y m d)
  have HD : Hid (DcPost w (.returned (.tuple #[.agg #[.slice x nn cc, .slice y m d], .int .i64 kept])) ((w5.setCell ⟨w.heap.size, 0, none⟩ (.slice x nn cc)).setCell ⟨w.heap.size, 1, none⟩ (.slice y m d))) := ⟨x, y, xs, ys, nn, cc, m, d, kept, rfl, (hB.turned (r := w.heap.size) ⟨T.os, T.tape, T.output, T.size, fun k hk hn => T.block k hk (by omega)⟩).low (by omega), g0.trans (T.toBelow g0.size (Nat.le_refl _))⟩
  obtain ⟨O0, O1, F0, F1⟩ := hO
  refine wpAnyH_ready (rs := [15]) (by kernel_rfl) (by simp) ?_
  refine AllReadyH.cons rfl (fun K hK => ?_) AllReadyH.nil
  go_simp
  refine hK.out _ _ (hHeld.turnedD T (.inr (by omega))) (fun hHeld => ?_)
  clear hK K
  try simp only [Act.put]
  try simp only [List.setIfInBounds_toArray]
  try simp only [List.set]
  refine wpAnyH_take (i := 16) (v := ?v12) rfl (by kernel_rfl) (by kernel_rfl) (by kernel_rfl) (fun _ _ _ h => h) (Or.inl ⟨by kernel_rfl, ?h12⟩) hHeld ?_
  case h12 => intro u hSw; (try dsimp only at hSw); go_simp; try with_reducible rfl
  try simp only [List.getElem_toArray]
  try simp only [List.getElem_cons_succ]
  try simp only [List.getElem_cons_zero]
  try simp only [Act.put]
  try simp only [List.setIfInBounds_toArray]
  try simp only [List.set]
  refine wpAnyH_done (by kernel_rfl) ?_ _
  clear hHeld
  go_wp2_with fail
  refine bodyPost_ret (v := .tuple #[.agg #[.slice x nn cc, .slice y m d], .int .i64 kept]) (by simp [results, Try.results25, go_sem, *]) rfl ?_
  exact HD.out

end Go.Proofs.Ytcjkjenebnodbaa

/-
  The program's ReadLog: what cannot be read ends the records.
-/
namespace Go.Proofs.Ytcjkjenebnodbaa
open Go.RowKit
set_option linter.unusedVariables false

def rlQ (zs : List Int) : Int := if 16000 < zs.length then 2 else 0
def rlU (zs : List Int) : Nat := if 16000 < zs.length then 0 else logU zs
def rlN (zs : List Int) : Nat := if 16000 < zs.length then 0 else lgN zs
/-- What ReadLog answers. -/
def RlPost (w : World) (zs : List Int) (e : Ending) (w' : World) : Prop := ∃ a c D, e = .returned (.agg #[.int .i64 (rlQ zs), .int .i64 (rlU zs), .slice a (rlN zs) c]) ∧ Below w.heap.size w w' ∧ OwnRS w.heap.size w'.heap.size w' a (rlN zs) (lgR zs) D ∧ rlN zs ≤ c ∧ c ≤ 9223372036854775807

/-- The answer's cells, the records' and the number's. -/
structure RlS (w : World) (k : Int) (v : Value) (V : World) : Prop where
  a0 : V.cell? ⟨w.heap.size, 0, none⟩ = some (.int .i64 0)
  a1 : V.cell? ⟨w.heap.size, 1, none⟩ = some (.int .i64 0)
  a2 : V.cell? ⟨w.heap.size, 2, none⟩ = some (.slice none 0 0)
  f0 : V.frozen? ⟨w.heap.size, 0, none⟩ = false
  f1 : V.frozen? ⟨w.heap.size, 1, none⟩ = false
  f2 : V.frozen? ⟨w.heap.size, 2, none⟩ = false
  v0 : V.cell? ⟨w.heap.size + 1, 0, none⟩ = some v
  vf : V.frozen? ⟨w.heap.size + 1, 0, none⟩ = false
  u0 : V.cell? ⟨w.heap.size + 2, 0, none⟩ = some (.int .i64 k)
  uf : V.frozen? ⟨w.heap.size + 2, 0, none⟩ = false
  g : Below w.heap.size w V
section
variable {w V W : World} {k k' : Int} {v v' : Value}
theorem RlS.s (h : RlS w k v V) : w.heap.size + 3 ≤ V.heap.size := World.block_lt_of_cell? V _ h.u0
theorem RlS.low (h : RlS w k v V) (hb : Below (w.heap.size + 3) V W) : RlS w k v W :=
  ⟨(hb.cell (by simp only; omega)).trans h.a0, (hb.cell (by simp only; omega)).trans h.a1, (hb.cell (by simp only; omega)).trans h.a2, (hb.frozen (by simp only; omega)).trans h.f0, (hb.frozen (by simp only; omega)).trans h.f1, (hb.frozen (by simp only; omega)).trans h.f2, (hb.cell (by simp only; omega)).trans h.v0, (hb.frozen (by simp only; omega)).trans h.vf, (hb.cell (by simp only; omega)).trans h.u0, (hb.frozen (by simp only; omega)).trans h.uf, h.g.trans (hb.mono (by omega))⟩
theorem RlS.up (h : RlS w k v V) (hb : Below V.heap.size V W) : RlS w k v W := h.low (hb.mono h.s)
theorem RlS.putV (h : RlS w k v V) (v' : Value) : RlS w k v' (V.setCell ⟨w.heap.size + 1, 0, none⟩ v') := by
  have o : ∀ (p : Addr) (x : Value), p ≠ ⟨w.heap.size + 1, 0, none⟩ → V.cell? p = some x → (V.setCell ⟨w.heap.size + 1, 0, none⟩ v').cell? p = some x := fun p x hp hx => by
    rw [World.cell?_setCell_other _ _ _ _ (fun e => hp e.symm)]; exact hx
  exact ⟨o _ _ (by simp) h.a0, o _ _ (by simp) h.a1, o _ _ (by simp) h.a2, by rw [World.frozen?_setCell]; exact h.f0, by rw [World.frozen?_setCell]; exact h.f1, by rw [World.frozen?_setCell]; exact h.f2, World.cell?_setCell_same _ _ _ h.v0, by rw [World.frozen?_setCell]; exact h.vf, o _ _ (by simp) h.u0, by rw [World.frozen?_setCell]; exact h.uf, h.g.setCell (by simp) _⟩
theorem RlS.putK (h : RlS w k v V) (k' : Int) : RlS w k' v (V.setCell ⟨w.heap.size + 2, 0, none⟩ (.int .i64 k')) := by
  have o : ∀ (p : Addr) (x : Value), p ≠ ⟨w.heap.size + 2, 0, none⟩ → V.cell? p = some x → (V.setCell ⟨w.heap.size + 2, 0, none⟩ (.int .i64 k')).cell? p = some x := fun p x hp hx => by
    rw [World.cell?_setCell_other _ _ _ _ (fun e => hp e.symm)]; exact hx
  exact ⟨o _ _ (by simp) h.a0, o _ _ (by simp) h.a1, o _ _ (by simp) h.a2, by rw [World.frozen?_setCell]; exact h.f0, by rw [World.frozen?_setCell]; exact h.f1, by rw [World.frozen?_setCell]; exact h.f2, o _ _ (by simp) h.v0, by rw [World.frozen?_setCell]; exact h.vf, World.cell?_setCell_same _ _ _ h.u0, by rw [World.frozen?_setCell]; exact h.uf, h.g.setCell (by simp) _⟩
end

theorem Rlt.setLow {n₀ : Nat} {W : World} {v : Value} {k : Nat} {R : Nat → Rc} {D : Nat → Ad} (h : Rlt n₀ W v k R D) {p : Addr} (hp : p.block < n₀) (x : Value) : Rlt n₀ (W.setCell p x) v k R D :=
  ⟨ownsRow_setLow h.row hp x, fun i hi => (h.rn i hi).turned (x := p.block) (y := p.block + 1) ((Turned.refl _ _ W).setCell (Nat.le_refl _) (Nat.lt_succ_self _) x) (.inr (Nat.le_trans hp (h.fr i hi).1)), fun i hi => by rw [World.size_setCell]; exact h.fr i hi, h.ne⟩
theorem Rlt.mono {n₀ n₁ : Nat} {W : World} {v : Value} {k : Nat} {R : Nat → Rc} {D : Nat → Ad} (h : Rlt n₀ W v k R D) (hn : n₁ ≤ n₀) : Rlt n₁ W v k R D :=
  ⟨ownsRow_mono h.row hn, h.rn, fun i hi => by obtain ⟨h1, h2⟩ := h.fr i hi; exact ⟨Nat.le_trans hn h1, h2⟩, h.ne⟩
theorem Rlt.cap {n₀ : Nat} {W : World} {a : Option Addr} {c k : Nat} {R : Nat → Rc} {D : Nat → Ad} (h : Rlt n₀ W (.slice a k c) k R D) : k ≤ c ∧ c ≤ 9223372036854775807 := by
  have hml : maxLen = 9223372036854775807 := by decide
  rcases h.row.2 with ⟨e, h0⟩ | ⟨g, cap, cur, e, _, _, h1, h2, _⟩
  · simp only [Value.slice.injEq] at e; omega
  · simp only [Value.slice.injEq, true_and] at e; omega
theorem Rlt.ownAt {n₀ : Nat} {W : World} {a : Option Addr} {c k : Nat} {R : Nat → Rc} {D : Nat → Ad} (h : Rlt n₀ W (.slice a k c) k R D) : OwnRS n₀ W.heap.size W a k R D := by
  obtain ⟨a', c', e, hr⟩ := h.own
  simp only [Value.slice.injEq, true_and] at e
  obtain ⟨rfl, rfl⟩ := e
  exact hr

/-- The number that stands in block b. -/
def numAt (w : World) (b : Nat) : Nat := match w.cell? ⟨b, 0, none⟩ with
  | some (.int _ k) => k.toNat
  | _ => 0
theorem numAt_of {w : World} {b : Nat} {k : Nat} (h : w.cell? ⟨b, 0, none⟩ = some (.int .i64 (k : Int))) : numAt w b = k := by unfold numAt; rw [h]; simp

set_option maxHeartbeats 400000 in
theorem catchR_panicking (b0 b1 b2 : Nat) (k : Int) (a : Option Addr) (n c : Nat) (u : TypeId) (pv : Value) (older : List PanicEntry) (w : World) (hk : w.cell? ⟨b2, 0, none⟩ = some (.int .i64 k)) (hv : w.cell? ⟨b1, 0, none⟩ = some (.slice a n c))
    (h0 : w.cell? ⟨b0, 0, none⟩ = some (.int .i64 0)) (h1 : w.cell? ⟨b0, 1, none⟩ = some (.int .i64 0)) (h2 : w.cell? ⟨b0, 2, none⟩ = some (.slice none 0 0)) (f0 : w.frozen? ⟨b0, 0, none⟩ = false) (f1 : w.frozen? ⟨b0, 1, none⟩ = false) (f2 : w.frozen? ⟨b0, 2, none⟩ = false) :
    CallsD Try.prog 73 #[.pointer (some ⟨b2, 0, none⟩), .pointer (some ⟨b1, 0, none⟩), .pointer (some ⟨b0, 0, none⟩)] (.panicking ({ v := .iface u pv, recovered := false } :: older)) w fun e u' w' =>
      e = .returned (.tuple #[]) ∧ u' = .panicking ({ v := .iface u pv, recovered := true } :: older) ∧ w' = ((w.setCell ⟨b0, 0, none⟩ (.int .i64 0)).setCell ⟨b0, 1, none⟩ (.int .i64 k)).setCell ⟨b0, 2, none⟩ (.slice a n c) := by
  refine callsD_of_wpS Try.func73 rfl fun c₀ cs hu => ?_
  apply wpS_seq
  apply wpS_region
  simp [wpOpsS, go_sem, recoverD, hu, Try.ntmps73, Exit.thenS]
  refine wpS_cond (t := true) (by simp [Act.eval, Array.replicate]) ?_
  simp only [if_true]
  apply wpS_region
  simp [wpOpsS, go_sem, hk, hv, h0, h1, h2, f0, f1, f2, bodyPostS, results, Try.results73]

theorem catchR_idle (p q r : Addr) (w : World) :
    CallsD Try.prog 73 #[.pointer (some p), .pointer (some q), .pointer (some r)] .returning w fun e u' w' => e = .returned (.tuple #[]) ∧ u' = .returning ∧ w' = w := by
  refine callsD_of_wpS Try.func73 rfl fun c₀ cs hu => ?_
  apply wpS_seq
  apply wpS_region
  simp [wpOpsS, go_sem, recoverD, hu, Try.ntmps73, Exit.thenS]
  refine wpS_cond (t := false) (by simp [Act.eval, Array.replicate]) ?_
  simp only [Bool.false_eq_true, if_false]
  refine wpS_of_wp (wp_skip ?_)
  cases c₀
  simp_all [bodyPostS, results, Try.results73]

end Go.Proofs.Ytcjkjenebnodbaa
