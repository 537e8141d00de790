/-
  The contract of the model's l2Bent: some bytes, a page or nearly one, whatever is drawn.
-/
import Derived.Test.YtcjkjenebnodbaaDoorSDRgt
import Derived.Test.YtcjkjenebnodbaaDoorSDls
import Derived.Lib.Bytes

namespace Go.Proofs.YtcjkjenebnodbaaDoor.Dr
open Go.RowKit
set_option linter.unusedVariables false

/-- Bytes in a new row: 63 or 64 of them. -/
def BtAt (base : Nat) (w : World) (v : Value) : Prop := ∃ g o m d ys, v = .slice (some ⟨g, o, none⟩) m d ∧ List.length ys = m ∧ 1 ≤ m ∧ m ≤ 64 ∧ m ≤ d ∧ BytesIn base w.heap.size w (some ⟨g, o, none⟩) ys ∧ ∀ z ∈ ys, 0 ≤ z ∧ z ≤ 255

theorem bytesIn_tail {lo hi g : Nat} {w : World} {zs : List Int} (h : BytesIn lo hi w (some ⟨g, 0, none⟩) zs) : BytesIn lo hi w (some ⟨g, 1, none⟩) (zs.drop 1) := by
  rcases h with h | ⟨b, off, ha, h1, h2, hc, hf⟩
  · exact .inl (by rw [h]; rfl)
  · simp only [Option.some.injEq, Addr.mk.injEq, and_true] at ha
    obtain ⟨rfl, rfl⟩ := ha
    refine .inr ⟨g, 1, rfl, h1, h2, fun i hi => ?_, fun i hi => ?_⟩
    · have hl : 1 + i < zs.length := by rw [List.length_drop] at hi; omega
      have := hc (1 + i) hl
      rw [Nat.zero_add] at this
      rw [this]
      simp [List.getD, Nat.add_comm]
    · have hl : 1 + i < zs.length := by rw [List.length_drop] at hi; omega
      have := hf (1 + i) hl
      rw [Nat.zero_add] at this
      exact this

theorem bytesIn_store {lo hi g : Nat} {w : World} {zs : List Int} (h : BytesIn lo hi w (some ⟨g, 0, none⟩) zs) (j : Nat) (hj : j < zs.length) (y : Int) : BytesIn lo hi (w.setCell ⟨g, j, none⟩ (.int .u8 y)) (some ⟨g, 0, none⟩) (zs.set j y) := by
  rcases h with h | ⟨b, off, ha, h1, h2, hc, hf⟩
  · rw [h] at hj; simp at hj
  · cases ha
    refine .inr ⟨g, 0, rfl, h1, h2, fun i hi => ?_, fun i hi => ?_⟩
    · simp only [List.length_set] at hi
      have hci := hc i hi
      rw [Nat.zero_add] at hci ⊢
      by_cases e : i = j
      · subst e
        rw [World.cell?_setCell_same _ _ _ hci]
        simp [List.getD, hi]
      · rw [World.cell?_setCell_other _ _ _ _ (fun h => e (by have := congrArg Addr.off h; simp at this; omega)), hci]
        simp [List.getD, Ne.symm e]
    · simp only [List.length_set] at hi
      rw [World.frozen?_setCell]
      exact hf i hi

theorem bytesIn_at {lo hi g : Nat} {w : World} {zs : List Int} (h : BytesIn lo hi w (some ⟨g, 0, none⟩) zs) (j : Nat) (hj : j < zs.length) : w.cell? ⟨g, j, none⟩ = some (.int .u8 (zs.getD j 0)) ∧ w.frozen? ⟨g, j, none⟩ = false ∧ lo ≤ g := by
  rcases h with h | ⟨b, off, ha, h1, _, hc, hf⟩
  · rw [h] at hj; simp at hj
  · cases ha
    have e1 := hc j hj
    have e2 := hf j hj
    rw [Nat.zero_add] at e1 e2
    exact ⟨e1, e2, h1⟩

end Go.Proofs.YtcjkjenebnodbaaDoor.Dr

/-
  The model's l3Two: two pages, the second a copy of the first with some places turned.
-/
namespace Go.Proofs.YtcjkjenebnodbaaDoor.Dr
open Go.RowKit
set_option linter.unusedVariables false

theorem bytesIn_above {l u : Nat} {w : World} {a : Option Addr} {zs : List Int} (h : BytesIn l u w a zs) {p : Addr} (hp : u ≤ p.block) (v : Value) : BytesIn l u (w.setCell p v) a zs := by
  rcases h with h | ⟨b, off, ha, h1, h2, hc, hf⟩
  · exact .inl h
  · exact .inr ⟨b, off, ha, h1, h2, fun i hi => by rw [World.cell?_setCell_far _ _ _ _ (by simp only; omega)]; exact hc i hi, fun i hi => by rw [World.frozen?_setCell]; exact hf i hi⟩

/-- Two pages in blocks of their own. -/
structure Two (base mid : Nat) (w : World) (g g2 : Nat) (ys ys2 : List Int) : Prop where
  y : BytesIn base mid w (some ⟨g, 0, none⟩) ys
  y2 : BytesIn mid w.heap.size w (some ⟨g2, 0, none⟩) ys2
  l : ys.length = 64
  l2 : ys2.length = 64
  b : ∀ z ∈ ys, 0 ≤ z ∧ z ≤ 255
  b2 : ∀ z ∈ ys2, 0 ≤ z ∧ z ≤ 255
  bm : base ≤ mid

set_option maxHeartbeats 2000000 in
theorem l3Two_any (b : Nat) (a : Option Addr) (n c : Nat) (zs : List Int) (i : Int) (w : World) (h : SrcAt w b a n c zs i) (i9 : i ≤ 99000) :
    Calls Tryd.prog 45 #[.pointer (some ⟨b, 0, none⟩)] w fun e w' => ∃ g dd ys g2 d2 ys2 mid, e = .returned (.tuple #[.slice (some ⟨g, 0, none⟩) 64 dd, .slice (some ⟨g2, 0, none⟩) 64 d2]) ∧ 64 ≤ dd ∧ 64 ≤ d2 ∧ Two w.heap.size mid w' g g2 ys ys2 ∧ Turned b (b + 1) w w' ∧ ∃ j, j ≤ i + 317 ∧ SrcAt w' b a n c zs j := by
  have hbl := h.lt
  go_enter Tryd.func45, Tryd.ntmps45
  go_wp2_with fail
  refine (l2Right_any b a n c zs i w h i9).mono ?_
  rintro e w1 ⟨v, rfl, ⟨⟨g, dd, ys, rfl, hdd, hg, hY, hF⟩, hT, ⟨j, hj, hS⟩⟩⟩
  have hyl := hF.pg.len
  have hyb := hF.pg.bd
  have hmid := hT.size
  clear hF
  go_wp2_with fail
  refine (l2Copy_any _ ys dd _ hY.reads hyl).mono ?_
  rintro e w2 ⟨g2, d2, rfl, hd2, hb2, hg2, hA⟩
  have hY := hY.below hb2
  have hS := hS.below hb2
  have hT := hT.trans (Turned.ofBelow hb2)
  have hY2 : BytesIn w1.heap.size w2.heap.size w2 (some ⟨g2, 0, none⟩) ys := hA.bytes hg2 hA.lt
  generalize w1.heap.size = mid at hY hY2 hg2 hmid
  clear hb2 hA
  go_wp2_with fail
  refine (l1Next_any b a n c zs j 9 _ hS (by omega) (by omega) (by omega)).mono ?_
  rintro e w3 ⟨⟨r, rfl, r0, r1⟩, ht, hS⟩
  have hY := hY.turned ht (.inr (by omega))
  have hY2 := (hY2.turned ht (.inr (by omega))).mono (Nat.le_refl _) ht.size
  have hT := hT.trans ht
  clear ht
  have hTw : Two w.heap.size mid w3 g g2 ys ys := ⟨hY, hY2, hyl, hyl, hyb, hyb, hmid⟩
  clear hY hY2
  obtain ⟨r', rfl⟩ : ∃ r' : Nat, r = r' := ⟨r.toNat, by omega⟩
  go_wp2_with fail
  go_loopw [6] (fun k wr => ∃ q : Nat, q ≤ 8 ∧ k = .int .i64 q ∧ ∃ ys2 j, Two w.heap.size mid wr g g2 ys ys2 ∧ Turned b (b + 1) w wr ∧ j ≤ i + 301 + 2 * (8 - (q : Int)) ∧ SrcAt wr b a n c zs j) (fun k _ => (intOf k).toNat)
  case atStart => exact ⟨r', by omega, rfl, ys, _, hTw, hT, by omega, hS⟩
  case round =>
    clear hTw hT hS
    obtain ⟨q, hq, rfl, ys2, j, hTw, hT, hj, hS⟩ := hrel
    by_cases h0 : q = 0
    · subst h0
      go_wp2_with fail
      refine bodyPost_ret (v := .tuple #[.slice (some ⟨g, 0, none⟩) 64 dd, .slice (some ⟨g2, 0, none⟩) 64 d2]) (by simp [results, Tryd.results45, go_sem]) rfl ?_
      exact ⟨g, dd, ys, g2, d2, ys2, mid, rfl, hdd, hd2, hTw, hT, ⟨j, by omega, hS⟩⟩
    · have hq0 : (0 : Int) < (q : Int) := by omega
      go_wp2_with fail
      refine (l1Next_any b a n c zs j 64 _ hS (by omega) (by omega) (by omega)).mono ?_
      rintro e w4 ⟨⟨p, rfl, p0, p1⟩, ht, hS⟩
      have hY := hTw.y.turned ht (.inr (by omega))
      have hY2 := (hTw.y2.turned ht (.inr (by omega))).mono (Nat.le_refl _) ht.size
      have hT := hT.trans ht
      clear ht
      go_wp2_with fail
      refine (l1Next_any b a n c zs _ 256 _ hS (by omega) (by omega) (by omega)).mono ?_
      rintro e w5 ⟨⟨y, rfl, y0, y1⟩, ht, hS⟩
      have hY := hY.turned ht (.inr (by omega))
      have hY2 := (hY2.turned ht (.inr (by omega))).mono (Nat.le_refl _) ht.size
      have hT := hT.trans ht
      clear ht
      have hl2 := hTw.l2
      have hb2 := hTw.b2
      have hp : p.toNat < ys2.length := by omega
      obtain ⟨e1, e2, e3⟩ := bytesIn_at hY2 p.toNat hp
      have hlt : g2 < w5.heap.size := World.block_lt_of_cell? w5 _ e1
      have hwy : IntKind.u8.wrap y = y := by simp [IntKind.wrap, IntKind.bits, IntKind.signed]; omega
      have HTw : Hid (Two w.heap.size mid (w5.setCell ⟨g2, p.toNat, none⟩ (.int .u8 y)) g g2 ys (ys2.set p.toNat y)) :=
        ⟨bytesIn_above hY (by simp only; omega) _, (bytesIn_store hY2 p.toNat hp y).mono (Nat.le_refl _) (by simp [World.setCell]), hTw.l, by rw [List.length_set]; exact hl2, hTw.b, fun z hz => by
          rcases List.mem_or_eq_of_mem_set hz with h1 | h1
          · exact hb2 z h1
          · omega, hTw.bm⟩
      have HS : Hid (SrcAt (w5.setCell ⟨g2, p.toNat, none⟩ (.int .u8 y)) b a n c zs (j + 1 + 1)) := hS.setFar (by simp only; omega) _
      have HT : Hid (Turned b (b + 1) w (w5.setCell ⟨g2, p.toNat, none⟩ (.int .u8 y))) := hT.setNew (by simp only; omega) _
      generalize ys2.getD p.toNat 0 = x at e1
      clear hY hY2 hS hT hTw
      go_wp2_with fail
      go_roundw
      case rel => exact ⟨q - 1, by omega, by go_num, _, _, HTw.out, HT.out, by omega, HS.out⟩
      case measure => simp [intOf]; omega

end Go.Proofs.YtcjkjenebnodbaaDoor.Dr

/-
  Bytes that are copied, compared and held against a beginning.
-/
namespace Go.Proofs.YtcjkjenebnodbaaDoor
open Go.RowKit
set_option linter.unusedVariables false

theorem strOf_inj : ∀ (xs ys : List Int), (∀ z ∈ xs, 0 ≤ z ∧ z ≤ 255) → (∀ z ∈ ys, 0 ≤ z ∧ z ≤ 255) → (xs.map fun n => UInt8.ofNat n.toNat) = (ys.map fun n => UInt8.ofNat n.toNat) → xs = ys
  | [], [], _, _, _ => rfl
  | [], _ :: _, _, _, h => by simp at h
  | _ :: _, [], _, _, h => by simp at h
  | x :: xs, y :: ys, hx, hy, h => by
    simp only [List.map_cons, List.cons.injEq] at h
    have h1 := hx x (by simp)
    have h2 := hy y (by simp)
    have e : x = y := by
      have := congrArg UInt8.toNat h.1
      simp only [UInt8.toNat_ofNat'] at this
      omega
    rw [e, strOf_inj xs ys (fun z hz => hx z (by simp [hz])) (fun z hz => hy z (by simp [hz])) h.2]

theorem convert_none (w : World) (a : Option Addr) (c : Nat) : (convert 22 9 (.slice a 0 c)).run Tryd.prog w = .ok (.string (strOfNums [])) w := by
  rw [run_convert_bytes_string w 22 9 5 a 0 c Tryd.underlying22 Tryd.underlying5 Tryd.underlying9]
  cases a with
  | none => simp [Conv.bytesToString]; rfl
  | some p =>
    have hl : (loadCells p 0).run Tryd.prog w = .ok (([] : List Int).map (Value.int .u8)).toArray w := run_loadCells_list (P := Tryd.prog) w p [] (fun j v hj => by simp at hj)
    rw [run_bytesToString w p 0 c [] hl]
    rfl

theorem convert_any (w : World) (a : Option Addr) (n c : Nat) (zs : List Int) (hn : zs.length = n) (h : Reads w a zs) : (convert 22 9 (.slice a n c)).run Tryd.prog w = .ok (.string (strOfNums zs)) w := by
  by_cases h0 : zs = []
  · subst h0
    simp at hn
    subst hn
    exact convert_none w a c
  · rcases h with h | ⟨b, off, rfl, hc⟩
    · exact absurd h h0
    · exact run_convert_bytes_arg w 22 5 Tryd.underlying22 Tryd.underlying5 b off n c zs hn (fun i hi => hc i (by omega)) 9 Tryd.underlying9

set_option maxHeartbeats 400000 in
theorem bytesEqual_any (a b : Option Addr) (n m c d : Nat) (xs ys : List Int) (w : World) (hn : xs.length = n) (hm : ys.length = m) (ha : Reads w a xs) (hb : Reads w b ys) (hx : ∀ z ∈ xs, 0 ≤ z ∧ z ≤ 255) (hy : ∀ z ∈ ys, 0 ≤ z ∧ z ≤ 255) :
    Calls Tryd.prog 49 #[.slice a n c, .slice b m d] w fun e w' => e = .returned (.bool (decide (xs = ys))) ∧ w' = w := by
  have k1 := convert_any w a n c xs hn ha
  have k2 := convert_any w b m d ys hm hb
  have HE : Hid (decide (xs = ys) = ((strOfNums xs).toList == (strOfNums ys).toList)) := by
    show _ = _
    rw [Bool.eq_iff_iff, Go.Lib.strOfNums_toList, Go.Lib.strOfNums_toList, decide_eq_true_eq, beq_iff_eq]
    exact ⟨fun e => by rw [e], fun e => strOf_inj xs ys hx hy e⟩
  generalize strOfNums xs = s at k1 HE
  generalize strOfNums ys = t at k2 HE
  clear ha hb hn hm hx hy
  go_enter Tryd.func49, Tryd.ntmps49
  go_wp2
  go_ret
  exact ⟨by rw [HE.out]; rfl, rfl⟩

set_option maxHeartbeats 400000 in
theorem clone_any (b off n c : Nat) (zs : List Int) (w : World) (hn : zs.length = n) (hm : n ≤ 1048576) (hr : Reads w (some ⟨b, off, none⟩) zs) :
    Calls Tryd.prog 48 #[.slice (some ⟨b, off, none⟩) n c] w fun e w' => ∃ g cap, e = .returned (.slice (some ⟨g, 0, none⟩) n cap) ∧ Below w.heap.size w w' ∧ Gb w.heap.size w' (.slice (some ⟨g, 0, none⟩) n cap) zs := by
  obtain ⟨i0, hi0, hz0, hz1, hz2⟩ := info5
  have HN : Hid (zs.length = n) := hn
  have hc : ∀ i, i < zs.length → w.cell? ⟨b, off + i, none⟩ = some (.int .u8 (zs.getD i 0)) := by
    rcases hr with h | ⟨b', o', h, hc⟩
    · intro i hi; rw [h] at hi; simp at hi
    · simp only [Option.some.injEq, Addr.mk.injEq, and_true] at h
      obtain ⟨rfl, rfl⟩ := h
      exact hc
  have HC : Hid (∀ i, i < zs.length → w.cell? ⟨b, off + i, none⟩ = some (.int .u8 (zs.getD i 0))) := hc
  clear hr hc hn
  have g0 : Below w.heap.size w (w.alloc (.cells #[] 5)) := by go_grown
  have hG : (w.alloc (.cells #[] 5)).ownsRow w.heap.size 5 1 (.slice (some ⟨w.heap.size, 0, none⟩) 0 0) 0 [] := World.ownsRow_lit (base := w.heap.size) (e := 5) (size := 1) w #[] 0 (Nat.le_refl _) (by unfold maxLen; omega) rfl
  have hEq : ∀ W : World, (binOp .eql 22 (.slice (some ⟨b, off, none⟩) n c) (.slice none 0 0)).run Tryd.prog W = .ok (.bool false) W := fun W => by kernel_rfl
  go_enter Tryd.func48, Tryd.ntmps48
  go_wp2_with (at_builtin; refine wpList_append_own _ rfl _ _ 22 rfl w.heap.size 5 i0 (.int .u8 0) 1 1 Tryd.underlying22 hi0 hz0 hz1 hz2 rfl (by decide) _ _ _ rfl hG ⟨b, off, none⟩ n c (zs.map (Value.int .u8)) rfl (by rw [List.length_map, HN.out, Nat.mul_one]) (news_at (fun i hi => cellUp g0 (HC.out i hi))) (ones _) ?n3 ?n4 ?n5 ?_)
  case n3 => unfold maxLen; omega
  case n4 => omega
  case n5 => simp
  intro v' w6 hown' hgrow hnil
  obtain ⟨gv, cv, rfl⟩ : ∃ gv cv, v' = .slice (some ⟨gv, 0, none⟩) n cv := by
    rcases hown'.2 with ⟨h1, _⟩ | ⟨gv, cv, cur, hv, _⟩
    · exact absurd h1 hnil
    · exact ⟨gv, cv, hv⟩
  have hG6 : Gb w.heap.size w6 (.slice (some ⟨gv, 0, none⟩) n cv) zs := by unfold Gb; simpa [HN.out] using hown'
  have g6 : Below w.heap.size w w6 := Below.grown g0 hgrow (by simp) (fun q e => by simp [Value.ownBlock] at e; omega)
  clear hown' hgrow hG g0 hnil
  go_wp2_with fail
  go_ret
  exact ⟨gv, cv, rfl, g6, hG6⟩

set_option maxHeartbeats 400000 in
theorem l2Copy_any (b off n c : Nat) (zs : List Int) (w : World) (hn : zs.length = n) (hm : n ≤ 1048576) (hr : Reads w (some ⟨b, off, none⟩) zs) :
    Calls Tryd.prog 50 #[.slice (some ⟨b, off, none⟩) n c] w fun e w' => ∃ g cap, e = .returned (.slice (some ⟨g, 0, none⟩) n cap) ∧ Below w.heap.size w w' ∧ Gb w.heap.size w' (.slice (some ⟨g, 0, none⟩) n cap) zs := by
  obtain ⟨i0, hi0, hz0, hz1, hz2⟩ := info5
  have HN : Hid (zs.length = n) := hn
  have hc : ∀ i, i < zs.length → w.cell? ⟨b, off + i, none⟩ = some (.int .u8 (zs.getD i 0)) := by
    rcases hr with h | ⟨b', o', h, hc⟩
    · intro i hi; rw [h] at hi; simp at hi
    · simp only [Option.some.injEq, Addr.mk.injEq, and_true] at h
      obtain ⟨rfl, rfl⟩ := h
      exact hc
  have HC : Hid (∀ i, i < zs.length → w.cell? ⟨b, off + i, none⟩ = some (.int .u8 (zs.getD i 0))) := hc
  clear hr hc hn
  have g0 : Below w.heap.size w (w.alloc (.cells #[] 5)) := by go_grown
  have hG : (w.alloc (.cells #[] 5)).ownsRow w.heap.size 5 1 (.slice (some ⟨w.heap.size, 0, none⟩) 0 0) 0 [] := World.ownsRow_lit (base := w.heap.size) (e := 5) (size := 1) w #[] 0 (Nat.le_refl _) (by unfold maxLen; omega) rfl
  go_enter Tryd.func50, Tryd.ntmps50
  go_wp2_with (at_builtin; refine wpList_append_own _ rfl _ _ 22 rfl w.heap.size 5 i0 (.int .u8 0) 1 1 Tryd.underlying22 hi0 hz0 hz1 hz2 rfl (by decide) _ _ _ rfl hG ⟨b, off, none⟩ n c (zs.map (Value.int .u8)) rfl (by rw [List.length_map, HN.out, Nat.mul_one]) (news_at (fun i hi => cellUp g0 (HC.out i hi))) (ones _) ?n3 ?n4 ?n5 ?_)
  case n3 => unfold maxLen; omega
  case n4 => omega
  case n5 => simp
  intro v' w6 hown' hgrow hnil
  obtain ⟨gv, cv, rfl⟩ : ∃ gv cv, v' = .slice (some ⟨gv, 0, none⟩) n cv := by
    rcases hown'.2 with ⟨h1, _⟩ | ⟨gv, cv, cur, hv, _⟩
    · exact absurd h1 hnil
    · exact ⟨gv, cv, hv⟩
  have hG6 : Gb w.heap.size w6 (.slice (some ⟨gv, 0, none⟩) n cv) zs := by unfold Gb; simpa [HN.out] using hown'
  have g6 : Below w.heap.size w w6 := Below.grown g0 hgrow (by simp) (fun q e => by simp [Value.ownBlock] at e; omega)
  clear hown' hgrow hG g0 hnil
  go_wp2_with fail
  go_ret
  exact ⟨gv, cv, rfl, g6, hG6⟩

set_option maxHeartbeats 400000 in
theorem hasPrefix_any (a b : Option Addr) (n m c d : Nat) (xs ys : List Int) (w : World) (hn : xs.length = n) (hnc : n ≤ c) (hm : ys.length = m) (ha : Reads w a xs) (hb : Reads w b ys) (hx : ∀ z ∈ xs, 0 ≤ z ∧ z ≤ 255) (hy : ∀ z ∈ ys, 0 ≤ z ∧ z ≤ 255) (h0 : 0 < m) :
    Calls Tryd.prog 27 #[.slice a n c, .slice b m d] w fun e w' => e = .returned (.bool (decide (ys = xs.take m))) ∧ w' = w := by
  by_cases hle : m ≤ n
  · obtain ⟨ab, ao, rfl, hc⟩ : ∃ ab ao, a = some ⟨ab, ao, none⟩ ∧ ∀ i, i < xs.length → w.cell? ⟨ab, ao + i, none⟩ = some (.int .u8 (xs.getD i 0)) := by
      rcases ha with h | ⟨ab, ao, h, hc⟩
      · rw [h] at hn; simp at hn; omega
      · exact ⟨ab, ao, h, hc⟩
    have hr : Reads w (some ⟨ab, ao, none⟩) (xs.take m) := .inr ⟨ab, ao, rfl, fun i hi => by
      rw [List.length_take] at hi
      rw [hc i (by omega)]
      simp [List.getD, show i < m by omega]⟩
    have HT : Hid ((xs.take m).length = m) := by show _ = _; rw [List.length_take]; omega
    have HB : Hid (∀ z ∈ xs.take m, 0 ≤ z ∧ z ≤ 255) := fun z hz => hx z (List.mem_of_mem_take hz)
    have HE : Hid (decide (ys = xs.take m) = decide (xs.take m = ys)) := by show _ = _; rw [Bool.eq_iff_iff]; simp [eq_comm]
    have hle' : (m : Int) ≤ (n : Int) := by omega
    have hmc : (m : Int) ≤ (c : Int) := by omega
    clear hc hx
    go_enter Tryd.func27, Tryd.ntmps27
    go_wp2_with fail
    refine (bytesEqual_any _ b m m c d (xs.take m) ys _ HT.out hm hr hb HB.out hy).mono ?_
    rintro e w' ⟨rfl, hw'⟩
    subst w'
    rw [← HE.out]
    go_wp2_with fail
    go_ret
    exact ⟨rfl, rfl⟩
  · have HE : Hid (decide (ys = xs.take m) = false) := by
      show _ = _
      rw [decide_eq_false]
      intro e
      have := congrArg List.length e
      rw [List.length_take] at this
      omega
    have hle' : ¬ (m : Int) ≤ (n : Int) := by omega
    have hd : decide ((m : Int) ≤ (n : Int)) = false := by simpa using hle'
    go_enter Tryd.func27, Tryd.ntmps27
    go_wp2_with fail
    go_ret
    exact ⟨by rw [HE.out]; rfl, rfl⟩

end Go.Proofs.YtcjkjenebnodbaaDoor
