/-
  The contract of DrawCrashLog.
-/
import Derived.Test.YtcjkjenebnodbaaLbn
namespace Go.Proofs.Ytcjkjenebnodbaa
open Go.RowKit
set_option linter.unusedVariables false

theorem LgAt.turnedD {V W : World} {b lo hi : Nat} {x y : Option Addr} {n c m d : Nat} (h : LgAt V b x n c y m d) (ht : Dr.Turned lo hi V W) (hn : b < lo ∨ hi ≤ b) : LgAt W b x n c y m d := ⟨ht.cell h.c0 hn, ht.cell h.c1 hn⟩
def DcPost (w : World) (e : Ending) (w' : World) : Prop := ∃ x y xs ys n c m d k, e = .returned (.tuple #[.agg #[.slice x n c, .slice y m d], .int .i64 k]) ∧ Lb w.heap.size 18000 w' x y xs ys n c m d ∧ Below w.heap.size w w'

set_option maxRecDepth 20000 in
set_option maxHeartbeats 4000000 in
theorem drawCrashLog_any (a : Option Addr) (n c : Nat) (zs : List Int) (w : World) (rd : Dr.Reads w a zs) (hn : zs.length = n) (hm : n ≤ 1048576) (hz : ∀ z ∈ zs, 0 ≤ z ∧ z ≤ 255) :
    Calls Try.prog 25 #[.slice a n c] w fun e w' => DcPost w e w' := by
  go_enter Try.func25, Try.ntmps25
  go_upto_region 1 with (fail)
  generalize hY : World.alloc _ _ = Y
  have hO : Lc Y w.heap.size (.slice none 0 0) (.slice none 0 0) := by rw [← hY]; exact ⟨by simp [go_sem], by simp [go_sem], by simp [go_sem], by simp [go_sem]⟩
  have g0 : Below w.heap.size w Y := by rw [← hY]; go_grown
  have rd := rd.below g0 (Nat.le_refl _)
  clear hY
  go_wp2_with fail
  refine (Dr.l1Source_any a n c zs _ rd hn hm hz).mono ?_
  rintro e w1 ⟨rfl, g1, hlt, hS⟩
  have hOl := hO.lt
  have hO := hO.up g1
  have g0 := g0.trans (g1.mono (by have := g0.size; omega))
  generalize Y.heap.size = b at hS hlt hOl ⊢
  clear g1 rd
  go_wp2_with fail
  refine (l5Bent_any b a n c zs 0 _ hS (by omega)).mono ?_
  rintro e w2 ⟨⟨x, y, xs, ys, nn, cc, m, d, rfl, hB, hT⟩, ⟨j, hj, hS⟩⟩
  have hO := hO.turned hT (.inl (by omega))
  have hsz2 := hT.size
  have g0 : Below w.heap.size w w2 := g0.trans (hT.toBelow (by omega) (by omega))
  clear hT
  go_upto_region 3 with (fail)
  generalize hY : World.alloc _ _ = Y2
  have hL : LgAt Y2 w2.heap.size x nn cc y m d := by rw [← hY]; exact ⟨by simp [go_sem], by simp [go_sem]⟩
  have g2 : Below w2.heap.size w2 Y2 := by rw [← hY]; go_grown
  have hO := hO.up g2
  have hS := hS.below g2
  have hB := hB.turned (r := 0) (Dr.Turned.ofBelow g2)
  have g0 := g0.trans (g2.mono g0.size)
  have hlb : b < w2.heap.size := by omega
  have hsz := hB.sz
  have hwb : w.heap.size < b := hOl
  have L1 := hL.c1
  generalize w1.heap.size = lo at hB hlt hsz2
  generalize w2.heap.size = lb at hL hlb hsz2 L1 ⊢
  clear hY g2
  go_upto_region 4 with (fail)
  clear L1
  have hL' := hL.turnedD (Dr.Turned.ofBelow (lo := 0) (hi := 0) (Below.refl _ Y2).drew) (.inr (by omega))
  refine wp_region_held_drew (S := fun V => LgAt V lb x nn cc y m d) (by kernel_rfl) hL' (fun hHeld => ?_)
  have gq := (Below.refl Y2.heap.size Y2).drew
  have hO := hO.up gq
  have hS := hS.below gq
  have hB := hB.turned (r := 0) (Dr.Turned.ofBelow gq)
  have g0 := g0.drew
  generalize Y2.drew = D at hHeld hO hS hB g0 ⊢
  clear hL hL' gq
  have hwr : IntKind.i64.wrap ((m : Int) + 1) = (m : Int) + 1 := by simp [IntKind.wrap, IntKind.bits, IntKind.signed]; omega
  refine wpAnyH_take (i := 0) (v := ?v1) rfl (by kernel_rfl) (by kernel_rfl) (by kernel_rfl) (fun _ _ _ h => h) (Or.inl ⟨by kernel_rfl, ?h1⟩) hHeld ?_
  case h1 => intro u hSw; obtain ⟨q0, q1⟩ := hSw; go_simp; try with_reducible rfl
  try simp only [List.getElem_toArray]
  try simp only [List.getElem_cons_succ]
  try simp only [List.getElem_cons_zero]
  try simp only [Act.put]
  try simp only [List.setIfInBounds_toArray]
  try simp only [List.set]
  refine wpAnyH_take (i := 1) (v := ?v2) rfl (by kernel_rfl) (by kernel_rfl) (by kernel_rfl) (fun _ _ _ h => h) (Or.inl ⟨by kernel_rfl, ?h2⟩) hHeld ?_
  case h2 => intro u hSw; (try dsimp only at hSw); go_simp; try with_reducible rfl
  try simp only [List.getElem_toArray]
  try simp only [List.getElem_cons_succ]
  try simp only [List.getElem_cons_zero]
  try simp only [Act.put]
  try simp only [List.setIfInBounds_toArray]
  try simp only [List.set]
  refine wpAnyH_take (i := 2) (v := ?v3) rfl (by kernel_rfl) (by kernel_rfl) (by kernel_rfl) (fun _ _ _ h => h) (Or.inl ⟨by kernel_rfl, ?h3⟩) hHeld ?_
  case h3 => intro u hSw; (try dsimp only at hSw); go_simp; try with_reducible rfl
  try simp only [List.getElem_toArray]
  try simp only [List.getElem_cons_succ]
  try simp only [List.getElem_cons_zero]
  try simp only [Act.put]
  try simp only [List.setIfInBounds_toArray]
  try simp only [List.set]
  refine wpAnyH_take (i := 3) (v := ?v4) rfl (by kernel_rfl) (by kernel_rfl) (by kernel_rfl) (fun _ _ _ h => h) (Or.inl ⟨by kernel_rfl, ?h4⟩) hHeld ?_
  case h4 => intro u hSw; (try dsimp only at hSw); go_simp; try with_reducible rfl
  try simp only [List.getElem_toArray]
  try simp only [List.getElem_cons_succ]
  try simp only [List.getElem_cons_zero]
  try simp only [Act.put]
  try simp only [List.setIfInBounds_toArray]
  try simp only [List.set]
  refine wpAnyH_take (i := 4) (v := ?v5) rfl (by kernel_rfl) (by kernel_rfl) (by kernel_rfl) (fun _ _ _ h => h) (Or.inl ⟨by kernel_rfl, ?h5⟩) hHeld ?_
  case h5 => intro u hSw; (try dsimp only at hSw); go_simp; try with_reducible rfl
  try simp only [List.getElem_toArray]
  try simp only [List.getElem_cons_succ]
  try simp only [List.getElem_cons_zero]
  try simp only [Act.put]
  try simp only [List.setIfInBounds_toArray]
  try simp only [List.set]
  refine wpAnyH_take (i := 6) (v := ?v6) rfl (by kernel_rfl) (by kernel_rfl) (by kernel_rfl) (fun _ _ _ h => h) (Or.inl ⟨by kernel_rfl, ?h6⟩) hHeld ?_
  case h6 => intro u hSw; (try dsimp only at hSw); go_simp; try with_reducible rfl
  try simp only [List.getElem_toArray]
  try simp only [List.getElem_cons_succ]
  try simp only [List.getElem_cons_zero]
  try simp only [Act.put]
  try simp only [List.setIfInBounds_toArray]
  try simp only [List.set]
  refine wpAnyH_take (i := 7) (v := ?v7) rfl (by kernel_rfl) (by kernel_rfl) (by kernel_rfl) (fun _ _ _ h => h) (Or.inl ⟨by kernel_rfl, ?h7⟩) hHeld ?_
  case h7 => intro u hSw; (try dsimp only at hSw); go_simp; try with_reducible rfl
  try simp only [List.getElem_toArray]
  try simp only [List.getElem_cons_succ]
  try simp only [List.getElem_cons_zero]
  try simp only [Act.put]
  try simp only [List.setIfInBounds_toArray]
  try simp only [List.set]
  refine wpAnyH_take (i := 8) (v := ?v8) rfl (by kernel_rfl) (by kernel_rfl) (by kernel_rfl) (fun _ _ _ h => h) (Or.inl ⟨by kernel_rfl, ?h8⟩) hHeld ?_
  case h8 => intro u hSw; (try dsimp only at hSw); go_simp; try with_reducible rfl
  try simp only [List.getElem_toArray]
  try simp only [List.getElem_cons_succ]
  try simp only [List.getElem_cons_zero]
  try simp only [Act.put]
  try simp only [List.setIfInBounds_toArray]
  try simp only [List.set]
  refine wpAnyH_take (i := 10) (v := ?v9) rfl (by kernel_rfl) (by kernel_rfl) (by kernel_rfl) (fun _ _ _ h => h) (Or.inl ⟨by kernel_rfl, ?h9⟩) hHeld ?_
  case h9 => intro u hSw; (try dsimp only at hSw); go_simp; try with_reducible rfl
  try simp only [List.getElem_toArray]
  try simp only [List.getElem_cons_succ]
  try simp only [List.getElem_cons_zero]
  try simp only [Act.put]
  try simp only [List.setIfInBounds_toArray]
  try simp only [List.set]
  refine wpAnyH_take (i := 11) (v := ?v10) rfl (by kernel_rfl) (by kernel_rfl) (by kernel_rfl) (fun _ _ _ h => h) (Or.inl ⟨by kernel_rfl, ?h10⟩) hHeld ?_
  case h10 => intro u hSw; (try dsimp only at hSw); go_simp; try with_reducible rfl
  try simp only [List.getElem_toArray]
  try simp only [List.getElem_cons_succ]
  try simp only [List.getElem_cons_zero]
  try simp only [Act.put]
  try simp only [List.setIfInBounds_toArray]
  try simp only [List.set]
  refine wpAnyH_take (i := 12) (v := ?v11) rfl (by kernel_rfl) (by kernel_rfl) (by kernel_rfl) (fun _ _ _ h => h) (Or.inl ⟨by kernel_rfl, ?h11⟩) hHeld ?_
  case h11 => intro u hSw; (try dsimp only at hSw); go_simp; try with_reducible rfl
  try simp only [List.getElem_toArray]
  try simp only [List.getElem_cons_succ]
  try simp only [List.getElem_cons_zero]
  try simp only [Act.put]
  try simp only [List.setIfInBounds_toArray]
  try simp only [List.set]
  refine wpAnyH_ready (rs := [5]) (by kernel_rfl) (by simp) ?_
  refine AllReadyH.cons rfl (fun K hK => ?_) AllReadyH.nil
  go_simp
  go_wp2_with (go_at_call 67; refine (Dr.l1Next_any b a n c zs j _ D hS (by omega) (by omega) (by omega)).mono ?_; rintro e w3 ⟨⟨r1, rfl, p1, q1⟩, ht, hS⟩)
  refine hK.out _ _ (hHeld.turnedD ht (.inr (by omega))) (fun hHeld => ?_)
  clear hK K
  have hO := hO.turned ht (.inl (by omega))
  have hB := hB.turned (r := b) ⟨ht.os, ht.tape, ht.output, ht.size, fun k hk hn => ht.block k hk (by omega)⟩
  have g0 : Below w.heap.size w w3 := g0.trans (ht.toBelow g0.size (by omega))
  clear ht
  try simp only [Act.put]
  try simp only [List.setIfInBounds_toArray]
  try simp only [List.set]
  refine wpAnyH_ready (rs := [9]) (by kernel_rfl) (by simp) ?_
  refine AllReadyH.cons rfl (fun K hK => ?_) AllReadyH.nil
  go_simp
  go_wp2_with (go_at_call 67; refine (Dr.l1Next_any b a n c zs _ _ _ hS (by omega) (by omega) (by omega)).mono ?_; rintro e w4 ⟨⟨r2, rfl, p2, q2⟩, ht, hS⟩)
  refine hK.out _ _ (hHeld.turnedD ht (.inr (by omega))) (fun hHeld => ?_)
  clear hK K
  have hO := hO.turned ht (.inl (by omega))
  have hB := hB.turned (r := b) ⟨ht.os, ht.tape, ht.output, ht.size, fun k hk hn => ht.block k hk (by omega)⟩
  have g0 : Below w.heap.size w w4 := g0.trans (ht.toBelow g0.size (by omega))
  clear ht
  try simp only [Act.put]
  try simp only [List.setIfInBounds_toArray]
  try simp only [List.set]
  refine wpAnyH_ready (rs := [13]) (by kernel_rfl) (by simp) ?_
  refine AllReadyH.cons rfl (fun K hK => ?_) AllReadyH.nil
  go_simp
  refine hK.out _ _ (hHeld.up (by go_grown)) (fun hHeld => ?_)
  clear hK K
  have hbl4 := hS.lt
  generalize hY : World.alloc _ _ = Y5
  have hV : Dr.IntsAt Y5 w4.heap.size [r1, r2, m, 0, m + 1, -1] := by
    rw [← hY]; intro k hk
    have hk6 : k < 6 := hk
    match k, hk6 with
    | 0, _ => simp [go_sem]
    | 1, _ => simp [go_sem]
    | 2, _ => simp [go_sem]
    | 3, _ => simp [go_sem]
    | 4, _ => simp [go_sem]
    | 5, _ => simp [go_sem]
  have g5 : Below w4.heap.size w4 Y5 := by rw [← hY]; go_grown
  rw [hY] at hHeld
  have hO := hO.up g5
  have hS := hS.below g5
  have hB := hB.turned (r := 0) (Dr.Turned.ofBelow g5)
  have g0 := g0.trans (g5.mono g0.size)
  clear hY g5
  try simp only [Act.put]
  try simp only [List.setIfInBounds_toArray]
  try simp only [List.set]
  refine wpAnyH_ready (rs := [14]) (by kernel_rfl) (by simp) ?_
  refine AllReadyH.cons rfl (fun K hK => ?_) AllReadyH.nil
  go_simp
  go_wp2_with (go_at_call 83; refine (Dr.l1Pick_any b w4.heap.size 6 a n c zs [r1, r2, m, 0, m + 1, -1] _ _ hS (by omega) hV rfl (by omega) (by omega) hbl4).mono ?_; rintro e w5 ⟨⟨q, hq, rfl⟩, ht, hS⟩; generalize List.getD _ _ _ = kept)
  refine hK.out _ _ (hHeld.turnedD ht (.inr (by omega))) (fun hHeld => ?_)
  clear hK K
  have hO := hO.turned ht (.inl (by omega))
  have hB := hB.turned (r := b) ⟨ht.os, ht.tape, ht.output, ht.size, fun k hk hn => ht.block k hk (by omega)⟩
  have g0 : Below w.heap.size w w5 := g0.trans (ht.toBelow g0.size (by omega))
  clear ht hV
  try simp only [Act.put]
  try simp only [List.setIfInBounds_toArray]
  try simp only [List.set]
  have T : Dr.Turned w.heap.size (w.heap.size + 1) w5 ((w5.setCell ⟨w.heap.size, 0, none⟩ (.slice x nn cc)).setCell ⟨w.heap.size, 1, none⟩ (.slice y m d)) := ((Dr.Turned.refl w.heap.size (w.heap.size + 1) w5).setCell (p := ⟨w.heap.size, 0, none⟩) (by simp) (by simp) (.slice x nn cc)).setCell (p := ⟨w.heap.size, 1, none⟩) (by simp) (by simp) (.slice y m d)
  have HD : Hid (DcPost w (.returned (.tuple #[.agg #[.slice x nn cc, .slice y m d], .int .i64 kept])) ((w5.setCell ⟨w.heap.size, 0, none⟩ (.slice x nn cc)).setCell ⟨w.heap.size, 1, none⟩ (.slice y m d))) := ⟨x, y, xs, ys, nn, cc, m, d, kept, rfl, (hB.turned (r := w.heap.size) ⟨T.os, T.tape, T.output, T.size, fun k hk hn => T.block k hk (by omega)⟩).low (by omega), g0.trans (T.toBelow g0.size (Nat.le_refl _))⟩
  obtain ⟨O0, O1, F0, F1⟩ := hO
  refine wpAnyH_ready (rs := [15]) (by kernel_rfl) (by simp) ?_
  refine AllReadyH.cons rfl (fun K hK => ?_) AllReadyH.nil
  go_simp
  refine hK.out _ _ (hHeld.turnedD T (.inr (by omega))) (fun hHeld => ?_)
  clear hK K
  try simp only [Act.put]
  try simp only [List.setIfInBounds_toArray]
  try simp only [List.set]
  refine wpAnyH_take (i := 16) (v := ?v12) rfl (by kernel_rfl) (by kernel_rfl) (by kernel_rfl) (fun _ _ _ h => h) (Or.inl ⟨by kernel_rfl, ?h12⟩) hHeld ?_
  case h12 => intro u hSw; (try dsimp only at hSw); go_simp; try with_reducible rfl
  try simp only [List.getElem_toArray]
  try simp only [List.getElem_cons_succ]
  try simp only [List.getElem_cons_zero]
  try simp only [Act.put]
  try simp only [List.setIfInBounds_toArray]
  try simp only [List.set]
  refine wpAnyH_done (by kernel_rfl) ?_ _
  clear hHeld
  go_wp2_with fail
  refine bodyPost_ret (v := .tuple #[.agg #[.slice x nn cc, .slice y m d], .int .i64 kept]) (by simp [results, Try.results25, go_sem, *]) rfl ?_
  exact HD.out

end Go.Proofs.Ytcjkjenebnodbaa
