/-
  The contracts of lwSame and lwOthers, where what they hold against each other is alike.
-/
import Derived.Test.YtjbopcplpgoiaaaDps
import Derived.Test.YtjbopcplpgoiaaaSlo
import Derived.Laws.BytesArg
namespace Go.Proofs.Ytjbopcplpgoiaaa
open Go.RowKit
set_option linter.unusedVariables false

theorem convert_none (w : World) (a : Option Addr) (c : Nat) : (convert 22 9 (.slice a 0 c)).run Try.prog w = .ok (.string (strOfNums [])) w := by
  rw [run_convert_bytes_string w 22 9 5 a 0 c Try.underlying22 Try.underlying5 Try.underlying9]
  cases a with
  | none => simp [Conv.bytesToString]; rfl
  | some p =>
    have hl : (loadCells p 0).run Try.prog w = .ok (([] : List Int).map (Value.int .u8)).toArray w := run_loadCells_list (P := Try.prog) w p [] (fun j v hj => by simp at hj)
    rw [run_bytesToString w p 0 c [] hl]
    rfl

theorem convert_any (w : World) (a : Option Addr) (n c : Nat) (zs : List Int) (hn : zs.length = n) (h : Reads w a zs) : (convert 22 9 (.slice a n c)).run Try.prog w = .ok (.string (strOfNums zs)) w := by
  by_cases h0 : zs = []
  · subst h0
    simp at hn
    subst hn
    exact convert_none w a c
  · rcases h with h | ⟨b, off, rfl, hc⟩
    · exact absurd h h0
    · exact run_convert_bytes_arg w 22 5 Try.underlying22 Try.underlying5 b off n c zs hn (fun i hi => hc i (by omega)) 9 Try.underlying9

set_option maxHeartbeats 400000 in
theorem lwSame_same (a b : Option Addr) (n c d : Nat) (zs : List Int) (w : World) (hn : zs.length = n) (ha : Reads w a zs) (hb : Reads w b zs) :
    Calls Try.prog 19 #[.slice a n c, .slice b n d] w fun e w' => e = .returned (.bool true) ∧ w' = w := by
  have k1 := convert_any w a n c zs hn ha
  have k2 := convert_any w b n d zs hn hb
  generalize strOfNums zs = s at k1 k2
  clear ha hb hn
  go_enter Try.func19, Try.ntmps19
  go_wp2
  go_ret
  exact ⟨rfl, rfl⟩


theorem wf16 (k : Nat) (h : k < 16) : (Lit.int .i64 (k : Int)).wf = true := by
  have : ∀ j : Fin 16, (Lit.int .i64 ((j.val : Nat) : Int)).wf = true := by decide
  exact this ⟨k, h⟩

set_option maxHeartbeats 4000000 in
theorem lwOthers_any (a1 a2 : Option Addr) (zs ys : List Int) (n1 c1 n2 c2 : Nat) (slot : Int) (w : World) (hn1 : zs.length = n1) (hm1 : n1 ≤ 1048576) (hc1 : n1 ≤ c1) (hr1 : Reads w a1 zs) (hz1 : ∀ z ∈ zs, 0 ≤ z ∧ z ≤ 255)
    (hn2 : ys.length = n2) (hm2 : n2 ≤ 1048576) (hc2 : n2 ≤ c2) (hr2 : Reads w a2 ys) (hz2 : ∀ z ∈ ys, 0 ≤ z ∧ z ≤ 255) (he : ∀ i : Nat, i < 16 → (i : Int) ≠ slot → slotQ zs i = slotQ ys i ∧ slotB zs i = slotB ys i) :
    Calls Try.prog 20 #[.slice a1 n1 c1, .slice a2 n2 c2, .int .i64 slot] w fun e w' => e = .returned (.bool true) ∧ Below w.heap.size w w' := by
  have H1 : Hid (∀ (W : World) (k : Nat), k < 16 → Below w.heap.size w W → Calls Try.prog 17 #[.slice a1 n1 c1, .int .i64 k] W fun e w' => ∃ a' d, e = .returned (.agg #[.int .i64 (slotQ zs k), .slice a' (slotB zs k).length d]) ∧ Below W.heap.size W w' ∧ BytesIn W.heap.size w'.heap.size w' a' (slotB zs k)) := fun W k hk hb => implSlotIn_any a1 zs n1 c1 k W hn1 hm1 hc1 (hr1.below hb (Nat.le_refl _)) hz1 (wf16 k hk)
  have H2 : Hid (∀ (W : World) (k : Nat), k < 16 → Below w.heap.size w W → Calls Try.prog 17 #[.slice a2 n2 c2, .int .i64 k] W fun e w' => ∃ a' d, e = .returned (.agg #[.int .i64 (slotQ ys k), .slice a' (slotB ys k).length d]) ∧ Below W.heap.size W w' ∧ BytesIn W.heap.size w'.heap.size w' a' (slotB ys k)) := fun W k hk hb => implSlotIn_any a2 ys n2 c2 k W hn2 hm2 hc2 (hr2.below hb (Nat.le_refl _)) hz2 (wf16 k hk)
  have HE : Hid (∀ i : Nat, i < 16 → (i : Int) ≠ slot → slotQ zs i = slotQ ys i ∧ slotB zs i = slotB ys i) := he
  clear hn1 hm1 hc1 hr1 hz1 hn2 hm2 hc2 hr2 hz2 he
  go_enter Try.func20, Try.ntmps20
  go_wp2_with fail
  have g0 : Below w.heap.size w w := Below.refl _ _
  go_loopw [7] (fun kk wr => ∃ k : Nat, k ≤ 16 ∧ kk = .int .i64 k ∧ Below w.heap.size w wr) (fun kk _ => 16 - (intOf kk).toNat)
  case atStart => exact ⟨0, by omega, rfl, g0⟩
  case round =>
    obtain ⟨k, hk, rfl, gW⟩ := hrel
    clear g0
    by_cases hlt : k < 16
    · have d1 : (k : Int) < 16 := by omega
      go_wp2_with fail
      refine (H1.out wr k hlt gW).mono ?_
      rintro e w1 ⟨a', d, rfl, g1, y1⟩
      have gA : Below w.heap.size w w1 := gW.trans (g1.mono gW.size)
      clear g1 gW
      go_wp2_with fail
      generalize hq1 : slotQ zs k = q1
      generalize hb1 : slotB zs k = b1 at y1
      have c0 : (w1.alloc (.cells #[.int .i64 q1, .slice a' b1.length d] 30)).cell? ⟨w1.heap.size, 0, none⟩ = some (.int .i64 q1) := by simp [go_sem]
      have c1 : (w1.alloc (.cells #[.int .i64 q1, .slice a' b1.length d] 30)).cell? ⟨w1.heap.size, 1, none⟩ = some (.slice a' b1.length d) := by simp [go_sem]
      have r1 := y1.reads.below (B := w1.heap.size) (w' := w1.alloc (.cells #[.int .i64 q1, .slice a' b1.length d] 30)) (by go_grown) (Nat.le_refl _)
      have gX := gA.alloc gA.size (.cells #[.int .i64 q1, .slice a' b1.length d] 30)
      generalize w1.alloc (.cells #[.int .i64 q1, .slice a' b1.length d] 30) = X at c0 c1 r1 gX ⊢
      generalize w1.heap.size = B1 at c0 c1 ⊢
      clear gA y1
      refine (H2.out X k hlt gX).mono ?_
      rintro e w2 ⟨a'', d', rfl, g2, y2⟩
      have hB1 : B1 < X.heap.size := World.block_lt_of_cell? X _ c0
      have c0 := (g2.cell (p := ⟨B1, 0, none⟩) hB1).trans c0
      have c1 := (g2.cell (p := ⟨B1, 1, none⟩) hB1).trans c1
      have r1 := r1.below g2 (Nat.le_refl _)
      have gA : Below w.heap.size w w2 := gX.trans (g2.mono gX.size)
      have r2 := y2.reads
      have hB2 : B1 < w2.heap.size := World.block_lt_of_cell? w2 _ c0
      clear g2 gX y2
      by_cases hs : (k : Int) = slot
      · have ds : ((k : Int) != slot) = false := by simpa using hs
        clear hs
        go_wp2_with fail
        go_roundw
        case rel => exact ⟨k + 1, by omega, by go_num, gA.alloc gA.size _⟩
        case measure => simp [intOf]; omega
      · have ds : ((k : Int) != slot) = true := by simpa using hs
        obtain ⟨e1, e2⟩ := HE.out k hlt hs
        rw [hq1] at e1
        rw [hb1] at e2
        rw [← e1, ← e2]
        rw [← e2] at r2
        clear hs e1 e2 hq1 hb1
        have gT : Below w.heap.size w (w2.alloc (.cells #[.int .i64 q1, .slice a'' b1.length d'] 30)) := gA.alloc gA.size _
        have r1 := r1.below (B := w2.heap.size) (w' := w2.alloc (.cells #[.int .i64 q1, .slice a'' b1.length d'] 30)) (by go_grown) (Nat.le_refl _)
        have r2 := r2.below (B := w2.heap.size) (w' := w2.alloc (.cells #[.int .i64 q1, .slice a'' b1.length d'] 30)) (by go_grown) (Nat.le_refl _)
        go_wp2_with fail
        refine (lwSame_same a' a'' b1.length d d' b1 _ rfl r1 r2).mono ?_
        rintro e w' ⟨rfl, hw'⟩
        subst w'
        go_wp2_with fail
        go_roundw
        case rel => exact ⟨k + 1, by omega, by go_num, gT⟩
        case measure => simp [intOf]; omega
    · have d1 : ¬ (k : Int) < 16 := by omega
      go_wp2_with fail
      go_ret
      exact ⟨rfl, gW⟩

end Go.Proofs.Ytjbopcplpgoiaaa
