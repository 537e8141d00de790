/-
  The contract of the model's ParseRow: what row a text is, as a function of its words.
-/
import Derived.Test.YtfokolanjjiicaaDoorWordsF
import Derived.Test.YtfokolanjjiicaaDoorCut
namespace Go.Proofs.YtfokolanjjiicaaDoor
open Go.RowKit

/-- A row that words are, and whether they are one. -/
structure WRow where
  t : Int
  k : Int
  v : Int
  s : ByteArray
  ok : Bool

def wordsRow : List ByteArray → WRow
  | [x, y, z] => ⟨wordNum x, wordNum y, wordNum z, ⟨#[]⟩, faultI (wordNum x) (wordNum y) (wordNum z) ⟨#[]⟩ == 0⟩
  | [x, y, z, s] => ⟨wordNum x, wordNum y, wordNum z, s, faultI (wordNum x) (wordNum y) (wordNum z) s == 0 && !s.toList.isEmpty⟩
  | _ => ⟨0, 0, 0, ⟨#[]⟩, false⟩

theorem cut_sizes (s : ByteArray) : ∀ i, i ≤ s.size + 1 → ∀ x ∈ (cutSt s i).1, x.size ≤ s.size
  | 0, _, x, h => by simp [cutSt] at h
  | i + 1, hi, x, h => by
    rw [cutSt] at h
    split at h
    · simp only [List.mem_append, List.mem_singleton] at h
      rcases h with h | h
      · exact cut_sizes s i (by omega) x h
      · subst h
        rw [ByteArray.size_extract]
        omega
    · exact cut_sizes s i (by omega) x h

theorem l1Words_any (ws : List ByteArray) (v : Value) (base : Nat) (w : World) (hown : w.ownsRow base 9 1 v ws.length (ws.map Value.string)) (hsz : ∀ x ∈ ws, x.size ≤ 1048576) :
    Calls Tryd.prog 25 #[v] w fun e w' => e = .returned (.tuple #[.agg #[.int .i64 (wordsRow ws).t, .int .i64 (wordsRow ws).k, .int .i64 (wordsRow ws).v, .string (wordsRow ws).s], .bool (wordsRow ws).ok]) ∧ Below w.heap.size w w' := by
  by_cases h3 : ws.length = 3
  · obtain ⟨g, cap, rfl⟩ := Joins.ownsRow_form hown (by omega)
    match ws, h3 with
    | [x, y, z], _ =>
      exact l1Words_three g cap x y z w (hown.cellAt 0 (by simp)) (hown.cellAt 1 (by simp)) (hown.cellAt 2 (by simp)) (hsz x (by simp)) (hsz y (by simp)) (hsz z (by simp))
  · by_cases h4 : ws.length = 4
    · obtain ⟨g, cap, rfl⟩ := Joins.ownsRow_form hown (by omega)
      match ws, h4 with
      | [x, y, z, s], _ =>
        exact l1Words_four g cap x y z s w (hown.cellAt 0 (by simp)) (hown.cellAt 1 (by simp)) (hown.cellAt 2 (by simp)) (hown.cellAt 3 (by simp)) (hsz x (by simp)) (hsz y (by simp)) (hsz z (by simp)) (hsz s (by simp))
    · have e : wordsRow ws = ⟨0, 0, 0, ⟨#[]⟩, false⟩ := by
        unfold wordsRow
        split
        · simp at h3
        · simp at h4
        · rfl
      rw [e]
      rcases Joins.ownsRow_forms hown with ⟨rfl, hn⟩ | ⟨g, cap, rfl⟩
      · exact l1Words_few none 0 0 w (by omega) (by omega)
      · exact l1Words_few _ _ cap w h3 h4

/-- Block b holds a zero RowResult that may be written. -/
structure RRes (w : World) (b : Nat) : Prop where
  c0 : w.cell? ⟨b, 0, none⟩ = some (.int .i64 0)
  c1 : w.cell? ⟨b, 1, none⟩ = some (.int .i64 0)
  c2 : w.cell? ⟨b, 2, none⟩ = some (.int .i64 0)
  c3 : w.cell? ⟨b, 3, none⟩ = some (.int .i64 0)
  c4 : w.cell? ⟨b, 4, none⟩ = some (.string ⟨#[]⟩)
  f0 : w.frozen? ⟨b, 0, none⟩ = false
  f1 : w.frozen? ⟨b, 1, none⟩ = false
  f2 : w.frozen? ⟨b, 2, none⟩ = false
  f3 : w.frozen? ⟨b, 3, none⟩ = false
  f4 : w.frozen? ⟨b, 4, none⟩ = false

theorem RRes.below {B b : Nat} {w w' : World} (h : RRes w b) (hb : Below B w w') (hlt : b < B) : RRes w' b :=
  ⟨(hb.cell (p := ⟨b, 0, none⟩) hlt).trans h.c0, (hb.cell (p := ⟨b, 1, none⟩) hlt).trans h.c1, (hb.cell (p := ⟨b, 2, none⟩) hlt).trans h.c2, (hb.cell (p := ⟨b, 3, none⟩) hlt).trans h.c3, (hb.cell (p := ⟨b, 4, none⟩) hlt).trans h.c4, (hb.frozen (p := ⟨b, 0, none⟩) hlt).trans h.f0, (hb.frozen (p := ⟨b, 1, none⟩) hlt).trans h.f1, (hb.frozen (p := ⟨b, 2, none⟩) hlt).trans h.f2, (hb.frozen (p := ⟨b, 3, none⟩) hlt).trans h.f3, (hb.frozen (p := ⟨b, 4, none⟩) hlt).trans h.f4⟩

def parseV (r : WRow) : Value := if r.ok = true then .agg #[.int .i64 0, .int .i64 r.t, .int .i64 r.k, .int .i64 r.v, .string r.s] else .agg #[.int .i64 5, .int .i64 0, .int .i64 0, .int .i64 0, .string ⟨#[]⟩]

set_option maxHeartbeats 1000000 in
theorem specParseRow_any (s : ByteArray) (w : World) (hs : s.size ≤ 1048576) :
    Calls Tryd.prog 9 #[.string s] w fun e w' => e = .returned (parseV (wordsRow (cutSt s (s.size + 1)).1)) ∧ Below w.heap.size w w' := by
  have hz := cut_sizes s (s.size + 1) (Nat.le_refl _)
  obtain ⟨ws, hws⟩ : ∃ ws, ws = (cutSt s (s.size + 1)).1 := ⟨_, rfl⟩
  obtain ⟨t, k, v, x, ok, hr⟩ : ∃ t k v x ok, wordsRow ws = WRow.mk t k v x ok := ⟨_, _, _, _, _, rfl⟩
  have HW : Hid (ws = (cutSt s (s.size + 1)).1) := hws
  have HR : Hid (wordsRow ws = WRow.mk t k v x ok) := hr
  rw [← hws] at hz
  clear hws hr
  go_enter Tryd.func9, Tryd.ntmps9
  go_wp2_with fail
  refine (l1Cut_any s _ hs).mono ?_
  rintro e w1 ⟨val, rfl, g1, hown⟩
  rw [← HW.out] at hown
  have hR1 : RRes w1 w.heap.size := RRes.below ⟨by simp [go_sem], by simp [go_sem], by simp [go_sem], by simp [go_sem], by simp [go_sem], by simp [go_sem], by simp [go_sem], by simp [go_sem], by simp [go_sem], by simp [go_sem]⟩ g1 (by simp)
  have g : Below w.heap.size w w1 := Below.trans (by go_grown) (g1.mono (by simp))
  clear g1
  go_wp2_with fail
  refine (l1Words_any ws val _ _ hown (fun y hy => Nat.le_trans (hz y hy) hs)).mono ?_
  rintro e w2 ⟨rfl, g2⟩
  rw [HR.out]
  simp only
  have hR2 := hR1.below g2 (World.block_lt_of_cell? w1 _ hR1.c0)
  have g : Below w.heap.size w w2 := g.trans (g2.mono g.size)
  have hlt2 : w.heap.size < w2.heap.size := World.block_lt_of_cell? w2 _ hR2.c0
  clear g2 hown hR1
  go_upto_region 2 with (fail)
  generalize hX : w2.alloc (.cells #[.int .i64 t, .int .i64 k, .int .i64 v, .string x] 26) = X
  have r0 : X.cell? ⟨w2.heap.size, 0, none⟩ = some (.int .i64 t) := by rw [← hX]; simp [go_sem]
  have r1 : X.cell? ⟨w2.heap.size, 1, none⟩ = some (.int .i64 k) := by rw [← hX]; simp [go_sem]
  have r2 : X.cell? ⟨w2.heap.size, 2, none⟩ = some (.int .i64 v) := by rw [← hX]; simp [go_sem]
  have r3 : X.cell? ⟨w2.heap.size, 3, none⟩ = some (.string x) := by rw [← hX]; simp [go_sem]
  have hRX : RRes X w.heap.size := by rw [← hX]; exact hR2.below (B := w2.heap.size) (by go_grown) hlt2
  have gX : Below w.heap.size w X := by rw [← hX]; exact g.alloc g.size _
  generalize w2.heap.size = b3 at r0 r1 r2 r3 hlt2
  clear hX hR2 g
  obtain ⟨o0, o1, o2, o3, o4, g0, g1, g2, g3, g4⟩ := hRX
  have hne : ¬ (b3 = w.heap.size) := by omega
  cases ok
  · go_wp2_with fail
    refine bodyPost_ret (v := .agg #[.int .i64 5, .int .i64 0, .int .i64 0, .int .i64 0, .string ⟨#[]⟩]) (by simp [results, Tryd.results9, go_sem, o0, o1, o2, o3, o4]) rfl ?_
    exact ⟨by rw [← HW.out, HR.out]; rfl, by go_grown⟩
  · go_wp2_with fail
    refine bodyPost_ret (v := .agg #[.int .i64 0, .int .i64 t, .int .i64 k, .int .i64 v, .string x]) (by simp [results, Tryd.results9, go_sem, o0, o1, o2, o3, o4]) rfl ?_
    exact ⟨by rw [← HW.out, HR.out]; rfl, by go_grown⟩

end Go.Proofs.YtfokolanjjiicaaDoor
