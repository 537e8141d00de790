/-
  What DrawDiffBytes hands back: two pages, or a page and one without its first byte.
-/
import Derived.Test.YtpoccjlngbdjlaaDTwo
namespace Go.Proofs.Ytpoccjlngbdjlaa.Dr
open Go.RowKit
set_option linter.unusedVariables false

/-- A page, and bytes beside it. -/
structure TwoB (base : Nat) (w : World) (g : Nat) (ys : List Int) (g2 o m : Nat) (ys2 : List Int) : Prop where
  y : BytesIn base w.heap.size w (some ⟨g, 0, none⟩) ys
  y2 : BytesIn base w.heap.size w (some ⟨g2, o, none⟩) ys2
  l : ys.length = 64
  l2 : ys2.length = m
  m2 : m = 64 ∨ m = 63
  b : ∀ z ∈ ys, 0 ≤ z ∧ z ≤ 255
  b2 : ∀ z ∈ ys2, 0 ≤ z ∧ z ≤ 255

set_option maxHeartbeats 2000000 in
theorem drawDiffBytes_any (a : Option Addr) (n c : Nat) (zs : List Int) (w : World) (rd : Reads w a zs) (hn : zs.length = n) (hm : n ≤ 1048576) (hz : ∀ z ∈ zs, 0 ≤ z ∧ z ≤ 255) :
    Calls Try.prog 9 #[.slice a n c] w fun e w' => ∃ g dd ys g2 o m d2 ys2, e = .returned (.tuple #[.slice (some ⟨g, 0, none⟩) 64 dd, .slice (some ⟨g2, o, none⟩) m d2]) ∧ 64 ≤ dd ∧ m ≤ d2 ∧ TwoB w.heap.size w' g ys g2 o m ys2 ∧ Below w.heap.size w w' := by
  go_enter Try.func9, Try.ntmps9
  go_wp2_with fail
  refine (l1Source_any a n c zs w rd hn hm hz).mono ?_
  rintro e w1 ⟨rfl, g1, hlt, hS⟩
  go_wp2_with fail
  refine (l3Two_any _ a n c zs 0 w1 hS (by omega)).mono ?_
  rintro e w2 ⟨g, dd, ys, g2, d2, ys2, mid, rfl, hdd, hd2, hTw, hT, ⟨j, hj, hS⟩⟩
  have gB : Below w.heap.size w w2 := g1.trans (hT.toBelow (Nat.le_of_lt hlt) (Nat.le_refl _))
  have hsz := hT.size
  clear g1 hT
  go_wp2_with fail
  refine (l1Chance_any _ a n c zs j 12 _ hS (by omega) (by omega) (by omega)).mono ?_
  rintro e w3 ⟨⟨r, rfl⟩, ht, hS⟩
  have hY := hTw.y.turned ht (.inr (by omega))
  have hbm := hTw.bm
  have hY2 := (hTw.y2.turned ht (.inr (by omega))).mono (Nat.le_refl _) ht.size
  have gB := gB.trans (ht.toBelow (by omega) (Nat.le_refl _))
  have hmid : mid ≤ w2.heap.size := by
    rcases hTw.y2 with h | ⟨b, off, ha, h1, h2, _⟩
    · have := hTw.l2; rw [h] at this; simp at this
    · omega
  have hsz3 := ht.size
  obtain ⟨_, _, l, l2, b1, b2, _⟩ := hTw
  have HB : Hid (BytesIn w.heap.size w3.heap.size w3 (some ⟨g, 0, none⟩) ys) := hY.mono (by omega) (by omega)
  have HB2 : Hid (BytesIn w.heap.size w3.heap.size w3 (some ⟨g2, 0, none⟩) ys2) := hY2.mono (by omega) (Nat.le_refl _)
  clear ht hS hY hY2
  have hd1 : ¬ (d2 = 1) := by omega
  have hd3 : (1 : Int) ≤ (d2 : Int) := by omega
  cases r
  · go_wp2_with fail
    refine bodyPost_ret (v := .tuple #[.slice (some ⟨g, 0, none⟩) 64 dd, .slice (some ⟨g2, 0, none⟩) 64 d2]) (by simp [results, Try.results9, go_sem]) rfl ?_
    exact ⟨g, dd, ys, g2, 0, 64, d2, ys2, rfl, hdd, hd2, ⟨HB.out, HB2.out, l, l2, .inl rfl, b1, b2⟩, gB⟩
  · go_wp2_with fail
    go_region
    all_goals
      go_wp2_with fail
      refine bodyPost_ret (v := .tuple #[.slice (some ⟨g, 0, none⟩) 64 dd, .slice (some ⟨g2, 1, none⟩) 63 (d2 - 1)]) (by simp [results, Try.results9, go_sem]) rfl ?_
      exact ⟨g, dd, ys, g2, 1, 63, d2 - 1, ys2.drop 1, rfl, hdd, by omega, ⟨HB.out, bytesIn_tail HB2.out, l, by rw [List.length_drop, l2], .inr rfl, b1, fun z hz => b2 z (List.mem_of_mem_drop hz)⟩, by first | exact gB | exact below_draws gB 1⟩

end Go.Proofs.Ytpoccjlngbdjlaa.Dr
