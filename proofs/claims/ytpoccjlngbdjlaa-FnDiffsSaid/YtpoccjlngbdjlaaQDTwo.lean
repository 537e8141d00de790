/-
  The model's l3Two: two pages, the second a copy of the first with some places turned.
-/
import Derived.Test.YtpoccjlngbdjlaaQDBnt
import Derived.Test.YtpoccjlngbdjlaaQDlt

namespace Go.Proofs.Ytpoccjlngbdjlaa.Dr
open Go.RowKit
set_option linter.unusedVariables false

theorem bytesIn_above {l u : Nat} {w : World} {a : Option Addr} {zs : List Int} (h : BytesIn l u w a zs) {p : Addr} (hp : u ≤ p.block) (v : Value) : BytesIn l u (w.setCell p v) a zs := by
  rcases h with h | ⟨b, off, ha, h1, h2, hc, hf⟩
  · exact .inl h
  · exact .inr ⟨b, off, ha, h1, h2, fun i hi => by rw [World.cell?_setCell_far _ _ _ _ (by simp only; omega)]; exact hc i hi, fun i hi => by rw [World.frozen?_setCell]; exact hf i hi⟩

/-- Two pages in blocks of their own. -/
structure Two (base mid : Nat) (w : World) (g g2 : Nat) (ys ys2 : List Int) : Prop where
  y : BytesIn base mid w (some ⟨g, 0, none⟩) ys
  y2 : BytesIn mid w.heap.size w (some ⟨g2, 0, none⟩) ys2
  l : ys.length = 64
  l2 : ys2.length = 64
  b : ∀ z ∈ ys, 0 ≤ z ∧ z ≤ 255
  b2 : ∀ z ∈ ys2, 0 ≤ z ∧ z ≤ 255
  bm : base ≤ mid

set_option maxHeartbeats 2000000 in
theorem l3Two_any (b : Nat) (a : Option Addr) (n c : Nat) (zs : List Int) (i : Int) (w : World) (h : SrcAt w b a n c zs i) (i9 : i ≤ 600) :
    Calls Try.prog 34 #[.pointer (some ⟨b, 0, none⟩)] w fun e w' => ∃ g dd ys g2 d2 ys2 mid, e = .returned (.tuple #[.slice (some ⟨g, 0, none⟩) 64 dd, .slice (some ⟨g2, 0, none⟩) 64 d2]) ∧ 64 ≤ dd ∧ 64 ≤ d2 ∧ Two w.heap.size mid w' g g2 ys ys2 ∧ Turned b (b + 1) w w' ∧ ∃ j, j ≤ i + 317 ∧ SrcAt w' b a n c zs j := by
  have hbl := h.lt
  go_enter Try.func34, Try.ntmps34
  go_wp2_with fail
  refine (l2Right_any b a n c zs i w h i9).mono ?_
  rintro e w1 ⟨v, rfl, ⟨⟨g, dd, ys, rfl, hdd, hg, hY, hF⟩, hT, ⟨j, hj, hS⟩⟩⟩
  have hyl := hF.pg.len
  have hyb := hF.pg.bd
  have hmid := hT.size
  clear hF
  go_wp2_with fail
  refine (l2Copy_any _ ys dd _ hY.reads hyl).mono ?_
  rintro e w2 ⟨g2, d2, rfl, hd2, hb2, hg2, hA⟩
  have hY := hY.below hb2
  have hS := hS.below hb2
  have hT := hT.trans (Turned.ofBelow hb2)
  have hY2 : BytesIn w1.heap.size w2.heap.size w2 (some ⟨g2, 0, none⟩) ys := hA.bytes hg2 hA.lt
  generalize w1.heap.size = mid at hY hY2 hg2 hmid
  clear hb2 hA
  go_wp2_with fail
  refine (l1Next_any b a n c zs j 9 _ hS (by omega) (by omega) (by omega)).mono ?_
  rintro e w3 ⟨⟨r, rfl, r0, r1⟩, ht, hS⟩
  have hY := hY.turned ht (.inr (by omega))
  have hY2 := (hY2.turned ht (.inr (by omega))).mono (Nat.le_refl _) ht.size
  have hT := hT.trans ht
  clear ht
  have hTw : Two w.heap.size mid w3 g g2 ys ys := ⟨hY, hY2, hyl, hyl, hyb, hyb, hmid⟩
  clear hY hY2
  obtain ⟨r', rfl⟩ : ∃ r' : Nat, r = r' := ⟨r.toNat, by omega⟩
  go_wp2_with fail
  go_loopw [6] (fun k wr => ∃ q : Nat, q ≤ 8 ∧ k = .int .i64 q ∧ ∃ ys2 j, Two w.heap.size mid wr g g2 ys ys2 ∧ Turned b (b + 1) w wr ∧ j ≤ i + 301 + 2 * (8 - (q : Int)) ∧ SrcAt wr b a n c zs j) (fun k _ => (intOf k).toNat)
  case atStart => exact ⟨r', by omega, rfl, ys, _, hTw, hT, by omega, hS⟩
  case round =>
    clear hTw hT hS
    obtain ⟨q, hq, rfl, ys2, j, hTw, hT, hj, hS⟩ := hrel
    by_cases h0 : q = 0
    · subst h0
      go_wp2_with fail
      refine bodyPost_ret (v := .tuple #[.slice (some ⟨g, 0, none⟩) 64 dd, .slice (some ⟨g2, 0, none⟩) 64 d2]) (by simp [results, Try.results34, go_sem]) rfl ?_
      exact ⟨g, dd, ys, g2, d2, ys2, mid, rfl, hdd, hd2, hTw, hT, ⟨j, by omega, hS⟩⟩
    · have hq0 : (0 : Int) < (q : Int) := by omega
      go_wp2_with fail
      refine (l1Next_any b a n c zs j 64 _ hS (by omega) (by omega) (by omega)).mono ?_
      rintro e w4 ⟨⟨p, rfl, p0, p1⟩, ht, hS⟩
      have hY := hTw.y.turned ht (.inr (by omega))
      have hY2 := (hTw.y2.turned ht (.inr (by omega))).mono (Nat.le_refl _) ht.size
      have hT := hT.trans ht
      clear ht
      go_wp2_with fail
      refine (l1Next_any b a n c zs _ 256 _ hS (by omega) (by omega) (by omega)).mono ?_
      rintro e w5 ⟨⟨y, rfl, y0, y1⟩, ht, hS⟩
      have hY := hY.turned ht (.inr (by omega))
      have hY2 := (hY2.turned ht (.inr (by omega))).mono (Nat.le_refl _) ht.size
      have hT := hT.trans ht
      clear ht
      have hl2 := hTw.l2
      have hb2 := hTw.b2
      have hp : p.toNat < ys2.length := by omega
      obtain ⟨e1, e2, e3⟩ := bytesIn_at hY2 p.toNat hp
      have hlt : g2 < w5.heap.size := World.block_lt_of_cell? w5 _ e1
      have hwy : IntKind.u8.wrap y = y := by simp [IntKind.wrap, IntKind.bits, IntKind.signed]; omega
      have HTw : Hid (Two w.heap.size mid (w5.setCell ⟨g2, p.toNat, none⟩ (.int .u8 y)) g g2 ys (ys2.set p.toNat y)) :=
        ⟨bytesIn_above hY (by simp only; omega) _, (bytesIn_store hY2 p.toNat hp y).mono (Nat.le_refl _) (by simp [World.setCell]), hTw.l, by rw [List.length_set]; exact hl2, hTw.b, fun z hz => by
          rcases List.mem_or_eq_of_mem_set hz with h1 | h1
          · exact hb2 z h1
          · omega, hTw.bm⟩
      have HS : Hid (SrcAt (w5.setCell ⟨g2, p.toNat, none⟩ (.int .u8 y)) b a n c zs (j + 1 + 1)) := hS.setFar (by simp only; omega) _
      have HT : Hid (Turned b (b + 1) w (w5.setCell ⟨g2, p.toNat, none⟩ (.int .u8 y))) := hT.setNew (by simp only; omega) _
      generalize ys2.getD p.toNat 0 = x at e1
      clear hY hY2 hS hT hTw
      go_wp2_with fail
      go_roundw
      case rel => exact ⟨q - 1, by omega, by go_num, _, _, HTw.out, HT.out, by omega, HS.out⟩
      case measure => simp [intOf]; omega

end Go.Proofs.Ytpoccjlngbdjlaa.Dr

/-
  Runs that were appended: one more behind; what they read as; a source is turned.
-/
namespace Go.Proofs.Ytpoccjlngbdjlaa
open Go.RowKit Go.Shelf
set_option linter.unusedVariables false

section
variable {n₀ : Nat} {W W' : World} {v : Value} {k : Nat} {P : Nat → Int} {V : Nat → Value} {Z : Nat → List Int} {B : Nat → Nat}
/-- A run comes behind. -/
theorem Dlt.add (h : Dlt n₀ W v k P V Z B) {v' u : Value} {b : Nat} (hu : W.ownsRow b 5 1 u (Z k).length ((Z k).map (Value.int .u8))) (hb : ∀ i, i < k → ∀ g, (V i).ownBlock = some g → g < b) (hn : n₀ ≤ b) (hbW : b ≤ W.heap.size)
    (hrow : W'.ownsRow n₀ 35 2 v' (k + 1) (dcells P V k ++ [.int .i64 (P k), u])) (hg : W.grownBy W' v.ownBlock) :
    Dlt n₀ W' v' (k + 1) P (fun i => if i = k then u else V i) Z (fun i => if i = k then b else B i) := by
  have keep : ∀ {bb n : Nat} {y : Value} {xs : List Value}, W.ownsRow bb 5 1 y n xs → W'.ownsRow bb 5 1 y n xs := fun {bb n y xs} hy => by
    refine hy.kept hg ?_
    rcases rows_apart h.row hy with h1 | h1
    · by_cases h2 : y.ownBlock = none
      · exact .inl h2
      · exact .inr (fun e2 => h2 (e2.trans h1))
    · exact .inr (fun e2 => h1 e2.symm)
  refine ⟨?_, fun i hi => ?_, fun i hi => ?_, fun i j hij hj g hgb => ?_, fun i hi => by
    by_cases e : i = k
    · simp only [if_pos e]; exact Nat.le_trans hbW hg.size
    · simp only [if_neg e]; exact Nat.le_trans (h.hi i (by omega)) hg.size⟩
  · simp only [dcells, if_true]
    rw [← dcells_congr k (P := P) (V := V) (fun i hi => ⟨rfl, by simp only [if_neg (show ¬ i = k by omega)]⟩)]
    exact hrow
  · by_cases e : i = k
    · subst e
      simp only [if_true]
      exact keep hu
    · simp only [if_neg e]
      exact keep (h.by' i (by omega))
  · by_cases e : i = k
    · simp only [if_pos e]; exact hn
    · simp only [if_neg e]; exact h.lo i (by omega)
  · have hik : ¬ i = k := by omega
    simp only [if_neg hik] at hgb
    by_cases e : j = k
    · simp only [if_pos e]
      exact hb i (by omega) g hgb
    · simp only [if_neg e]; exact h.sep i j hij (by omega) g hgb

theorem Dlt.nil (n₀ : Nat) (W : World) (P : Nat → Int) (V : Nat → Value) (Z : Nat → List Int) (B : Nat → Nat) : Dlt n₀ W (.slice none 0 0) 0 P V Z B :=
  ⟨World.ownsRow_nil _ _ _ _, fun i hi => absurd hi (Nat.not_lt_zero _), fun i hi => absurd hi (Nat.not_lt_zero _), fun i j _ hi => absurd hi (Nat.not_lt_zero _), fun i hi => absurd hi (Nat.not_lt_zero _)⟩

/-- Runs that were appended read as what they are. -/
theorem Dlt.reads (h : Dlt n₀ W v k P V Z B) : ∃ a c A C, v = .slice a k c ∧ RunsRead W a k P A C Z := by
  have each : ∀ i, i < k → ∃ q : Option Addr × Nat, V i = .slice q.1 (Z i).length q.2 ∧ Reads W q.1 (Z i) := fun i hi => by
    rcases (h.by' i hi).2 with ⟨e, h0⟩ | ⟨g, cap, cur, e, _⟩
    · exact ⟨(none, 0), by rw [e, h0], .inl (List.eq_nil_of_length_eq_zero h0)⟩
    · refine ⟨(some ⟨g, 0, none⟩, cap), e, ?_⟩
      have hb := h.by' i hi
      rw [e] at hb
      exact (bytesIn_owns hb).reads
  obtain ⟨q, hq⟩ := Go.Deep.choose_lt each
  rcases h.row.2 with ⟨rfl, rfl⟩ | ⟨g, cap, cur, rfl, hn, hg, _⟩
  · exact ⟨none, 0, fun _ => none, fun _ => 0, rfl, .inl rfl⟩
  · have hr := h.row
    refine ⟨some ⟨g, 0, none⟩, cap, fun i => (q i).1, fun i => (q i).2, rfl, .inr ⟨g, 0, rfl, fun i hi => ⟨?_, ?_, (hq i hi).2⟩⟩⟩
    · rw [Nat.zero_add, hr.cellAt (i * 2) (by omega)]; exact (dcells_at P V k i hi).1
    · rw [Nat.zero_add, hr.cellAt (i * 2 + 1) (by omega), (dcells_at P V k i hi).2, (hq i hi).1]


theorem ownsRow_turned {base lo hi n : Nat} {e : TypeId} {size : Nat} {u : Value} {xs : List Value} (h : W.ownsRow base e size u n xs) (ht : Dr.Turned lo hi W W') (hb : hi ≤ base) : W'.ownsRow base e size u n xs := by
  refine ⟨h.1, ?_⟩
  rcases h.2 with h0 | ⟨g, cap, cur, hv, hg0, hg, hr⟩
  · exact .inl h0
  · exact .inr ⟨g, cap, cur, hv, hg0, (ht.block g (Array.getElem?_eq_some_iff.1 hg).1 (by omega)).trans hg, hr⟩
theorem Dlt.turned {lo hi : Nat} (h : Dlt n₀ W v k P V Z B) (ht : Dr.Turned lo hi W W') (hb : hi ≤ n₀) : Dlt n₀ W' v k P V Z B :=
  ⟨ownsRow_turned h.row ht hb, fun i hi => ownsRow_turned (h.by' i hi) ht (Nat.le_trans hb (h.lo i hi)), h.lo, h.sep, fun i hi => Nat.le_trans (h.hi i hi) ht.size⟩
end

end Go.Proofs.Ytpoccjlngbdjlaa
