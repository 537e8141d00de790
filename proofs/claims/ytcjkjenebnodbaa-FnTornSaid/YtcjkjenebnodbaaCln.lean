/-
  Bytes that are copied, compared and held against a beginning.
-/
import Derived.Test.YtcjkjenebnodbaaDls
import Derived.Lib.Bytes
namespace Go.Proofs.Ytcjkjenebnodbaa
open Go.RowKit
set_option linter.unusedVariables false

theorem strOf_inj : ∀ (xs ys : List Int), (∀ z ∈ xs, 0 ≤ z ∧ z ≤ 255) → (∀ z ∈ ys, 0 ≤ z ∧ z ≤ 255) → (xs.map fun n => UInt8.ofNat n.toNat) = (ys.map fun n => UInt8.ofNat n.toNat) → xs = ys
  | [], [], _, _, _ => rfl
  | [], _ :: _, _, _, h => by simp at h
  | _ :: _, [], _, _, h => by simp at h
  | x :: xs, y :: ys, hx, hy, h => by
    simp only [List.map_cons, List.cons.injEq] at h
    have h1 := hx x (by simp)
    have h2 := hy y (by simp)
    have e : x = y := by
      have := congrArg UInt8.toNat h.1
      simp only [UInt8.toNat_ofNat'] at this
      omega
    rw [e, strOf_inj xs ys (fun z hz => hx z (by simp [hz])) (fun z hz => hy z (by simp [hz])) h.2]

theorem convert_none (w : World) (a : Option Addr) (c : Nat) : (convert 22 9 (.slice a 0 c)).run Try.prog w = .ok (.string (strOfNums [])) w := by
  rw [run_convert_bytes_string w 22 9 5 a 0 c Try.underlying22 Try.underlying5 Try.underlying9]
  cases a with
  | none => simp [Conv.bytesToString]; rfl
  | some p =>
    have hl : (loadCells p 0).run Try.prog w = .ok (([] : List Int).map (Value.int .u8)).toArray w := run_loadCells_list (P := Try.prog) w p [] (fun j v hj => by simp at hj)
    rw [run_bytesToString w p 0 c [] hl]
    rfl

theorem convert_any (w : World) (a : Option Addr) (n c : Nat) (zs : List Int) (hn : zs.length = n) (h : Reads w a zs) : (convert 22 9 (.slice a n c)).run Try.prog w = .ok (.string (strOfNums zs)) w := by
  by_cases h0 : zs = []
  · subst h0
    simp at hn
    subst hn
    exact convert_none w a c
  · rcases h with h | ⟨b, off, rfl, hc⟩
    · exact absurd h h0
    · exact run_convert_bytes_arg w 22 5 Try.underlying22 Try.underlying5 b off n c zs hn (fun i hi => hc i (by omega)) 9 Try.underlying9

set_option maxHeartbeats 400000 in
theorem bytesEqual_any (a b : Option Addr) (n m c d : Nat) (xs ys : List Int) (w : World) (hn : xs.length = n) (hm : ys.length = m) (ha : Reads w a xs) (hb : Reads w b ys) (hx : ∀ z ∈ xs, 0 ≤ z ∧ z ≤ 255) (hy : ∀ z ∈ ys, 0 ≤ z ∧ z ≤ 255) :
    Calls Try.prog 127 #[.slice a n c, .slice b m d] w fun e w' => e = .returned (.bool (decide (xs = ys))) ∧ w' = w := by
  have k1 := convert_any w a n c xs hn ha
  have k2 := convert_any w b m d ys hm hb
  have HE : Hid (decide (xs = ys) = ((strOfNums xs).toList == (strOfNums ys).toList)) := by
    show _ = _
    rw [Bool.eq_iff_iff, Go.Lib.strOfNums_toList, Go.Lib.strOfNums_toList, decide_eq_true_eq, beq_iff_eq]
    exact ⟨fun e => by rw [e], fun e => strOf_inj xs ys hx hy e⟩
  generalize strOfNums xs = s at k1 HE
  generalize strOfNums ys = t at k2 HE
  clear ha hb hn hm hx hy
  go_enter Try.func127, Try.ntmps127
  go_wp2
  go_ret
  exact ⟨by rw [HE.out]; rfl, rfl⟩

set_option maxHeartbeats 400000 in
theorem clone_any (b off n c : Nat) (zs : List Int) (w : World) (hn : zs.length = n) (hm : n ≤ 1048576) (hr : Reads w (some ⟨b, off, none⟩) zs) :
    Calls Try.prog 77 #[.slice (some ⟨b, off, none⟩) n c] w fun e w' => ∃ g cap, e = .returned (.slice (some ⟨g, 0, none⟩) n cap) ∧ Below w.heap.size w w' ∧ Gb w.heap.size w' (.slice (some ⟨g, 0, none⟩) n cap) zs := by
  obtain ⟨i0, hi0, hz0, hz1, hz2⟩ := info5
  have HN : Hid (zs.length = n) := hn
  have hc : ∀ i, i < zs.length → w.cell? ⟨b, off + i, none⟩ = some (.int .u8 (zs.getD i 0)) := by
    rcases hr with h | ⟨b', o', h, hc⟩
    · intro i hi; rw [h] at hi; simp at hi
    · simp only [Option.some.injEq, Addr.mk.injEq, and_true] at h
      obtain ⟨rfl, rfl⟩ := h
      exact hc
  have HC : Hid (∀ i, i < zs.length → w.cell? ⟨b, off + i, none⟩ = some (.int .u8 (zs.getD i 0))) := hc
  clear hr hc hn
  have g0 : Below w.heap.size w (w.alloc (.cells #[] 5)) := by go_grown
  have hG : (w.alloc (.cells #[] 5)).ownsRow w.heap.size 5 1 (.slice (some ⟨w.heap.size, 0, none⟩) 0 0) 0 [] := World.ownsRow_lit (base := w.heap.size) (e := 5) (size := 1) w #[] 0 (Nat.le_refl _) (by unfold maxLen; omega) rfl
  have hEq : ∀ W : World, (binOp .eql 22 (.slice (some ⟨b, off, none⟩) n c) (.slice none 0 0)).run Try.prog W = .ok (.bool false) W := fun W => by kernel_rfl
  go_enter Try.func77, Try.ntmps77
  go_wp2_with (at_builtin; refine wpList_append_own _ rfl _ _ 22 rfl w.heap.size 5 i0 (.int .u8 0) 1 1 Try.underlying22 hi0 hz0 hz1 hz2 rfl (by decide) _ _ _ rfl hG ⟨b, off, none⟩ n c (zs.map (Value.int .u8)) rfl (by rw [List.length_map, HN.out, Nat.mul_one]) (news_at (fun i hi => cellUp g0 (HC.out i hi))) (ones _) ?n3 ?n4 ?n5 ?_)
  case n3 => unfold maxLen; omega
  case n4 => omega
  case n5 => simp
  intro v' w6 hown' hgrow hnil
  obtain ⟨gv, cv, rfl⟩ : ∃ gv cv, v' = .slice (some ⟨gv, 0, none⟩) n cv := by
    rcases hown'.2 with ⟨h1, _⟩ | ⟨gv, cv, cur, hv, _⟩
    · exact absurd h1 hnil
    · exact ⟨gv, cv, hv⟩
  have hG6 : Gb w.heap.size w6 (.slice (some ⟨gv, 0, none⟩) n cv) zs := by unfold Gb; simpa [HN.out] using hown'
  have g6 : Below w.heap.size w w6 := Below.grown g0 hgrow (by simp) (fun q e => by simp [Value.ownBlock] at e; omega)
  clear hown' hgrow hG g0 hnil
  go_wp2_with fail
  go_ret
  exact ⟨gv, cv, rfl, g6, hG6⟩

set_option maxHeartbeats 400000 in
theorem l2Copy_any (b off n c : Nat) (zs : List Int) (w : World) (hn : zs.length = n) (hm : n ≤ 1048576) (hr : Reads w (some ⟨b, off, none⟩) zs) :
    Calls Try.prog 119 #[.slice (some ⟨b, off, none⟩) n c] w fun e w' => ∃ g cap, e = .returned (.slice (some ⟨g, 0, none⟩) n cap) ∧ Below w.heap.size w w' ∧ Gb w.heap.size w' (.slice (some ⟨g, 0, none⟩) n cap) zs := by
  obtain ⟨i0, hi0, hz0, hz1, hz2⟩ := info5
  have HN : Hid (zs.length = n) := hn
  have hc : ∀ i, i < zs.length → w.cell? ⟨b, off + i, none⟩ = some (.int .u8 (zs.getD i 0)) := by
    rcases hr with h | ⟨b', o', h, hc⟩
    · intro i hi; rw [h] at hi; simp at hi
    · simp only [Option.some.injEq, Addr.mk.injEq, and_true] at h
      obtain ⟨rfl, rfl⟩ := h
      exact hc
  have HC : Hid (∀ i, i < zs.length → w.cell? ⟨b, off + i, none⟩ = some (.int .u8 (zs.getD i 0))) := hc
  clear hr hc hn
  have g0 : Below w.heap.size w (w.alloc (.cells #[] 5)) := by go_grown
  have hG : (w.alloc (.cells #[] 5)).ownsRow w.heap.size 5 1 (.slice (some ⟨w.heap.size, 0, none⟩) 0 0) 0 [] := World.ownsRow_lit (base := w.heap.size) (e := 5) (size := 1) w #[] 0 (Nat.le_refl _) (by unfold maxLen; omega) rfl
  go_enter Try.func119, Try.ntmps119
  go_wp2_with (at_builtin; refine wpList_append_own _ rfl _ _ 22 rfl w.heap.size 5 i0 (.int .u8 0) 1 1 Try.underlying22 hi0 hz0 hz1 hz2 rfl (by decide) _ _ _ rfl hG ⟨b, off, none⟩ n c (zs.map (Value.int .u8)) rfl (by rw [List.length_map, HN.out, Nat.mul_one]) (news_at (fun i hi => cellUp g0 (HC.out i hi))) (ones _) ?n3 ?n4 ?n5 ?_)
  case n3 => unfold maxLen; omega
  case n4 => omega
  case n5 => simp
  intro v' w6 hown' hgrow hnil
  obtain ⟨gv, cv, rfl⟩ : ∃ gv cv, v' = .slice (some ⟨gv, 0, none⟩) n cv := by
    rcases hown'.2 with ⟨h1, _⟩ | ⟨gv, cv, cur, hv, _⟩
    · exact absurd h1 hnil
    · exact ⟨gv, cv, hv⟩
  have hG6 : Gb w.heap.size w6 (.slice (some ⟨gv, 0, none⟩) n cv) zs := by unfold Gb; simpa [HN.out] using hown'
  have g6 : Below w.heap.size w w6 := Below.grown g0 hgrow (by simp) (fun q e => by simp [Value.ownBlock] at e; omega)
  clear hown' hgrow hG g0 hnil
  go_wp2_with fail
  go_ret
  exact ⟨gv, cv, rfl, g6, hG6⟩

set_option maxHeartbeats 400000 in
theorem hasPrefix_any (a b : Option Addr) (n m c d : Nat) (xs ys : List Int) (w : World) (hn : xs.length = n) (hnc : n ≤ c) (hm : ys.length = m) (ha : Reads w a xs) (hb : Reads w b ys) (hx : ∀ z ∈ xs, 0 ≤ z ∧ z ≤ 255) (hy : ∀ z ∈ ys, 0 ≤ z ∧ z ≤ 255) (h0 : 0 < m) :
    Calls Try.prog 101 #[.slice a n c, .slice b m d] w fun e w' => e = .returned (.bool (decide (ys = xs.take m))) ∧ w' = w := by
  by_cases hle : m ≤ n
  · obtain ⟨ab, ao, rfl, hc⟩ : ∃ ab ao, a = some ⟨ab, ao, none⟩ ∧ ∀ i, i < xs.length → w.cell? ⟨ab, ao + i, none⟩ = some (.int .u8 (xs.getD i 0)) := by
      rcases ha with h | ⟨ab, ao, h, hc⟩
      · rw [h] at hn; simp at hn; omega
      · exact ⟨ab, ao, h, hc⟩
    have hr : Reads w (some ⟨ab, ao, none⟩) (xs.take m) := .inr ⟨ab, ao, rfl, fun i hi => by
      rw [List.length_take] at hi
      rw [hc i (by omega)]
      simp [List.getD, show i < m by omega]⟩
    have HT : Hid ((xs.take m).length = m) := by show _ = _; rw [List.length_take]; omega
    have HB : Hid (∀ z ∈ xs.take m, 0 ≤ z ∧ z ≤ 255) := fun z hz => hx z (List.mem_of_mem_take hz)
    have HE : Hid (decide (ys = xs.take m) = decide (xs.take m = ys)) := by show _ = _; rw [Bool.eq_iff_iff]; simp [eq_comm]
    have hle' : (m : Int) ≤ (n : Int) := by omega
    have hmc : (m : Int) ≤ (c : Int) := by omega
    clear hc hx
    go_enter Try.func101, Try.ntmps101
    go_wp2_with fail
    refine (bytesEqual_any _ b m m c d (xs.take m) ys _ HT.out hm hr hb HB.out hy).mono ?_
    rintro e w' ⟨rfl, hw'⟩
    subst w'
    rw [← HE.out]
    go_wp2_with fail
    go_ret
    exact ⟨rfl, rfl⟩
  · have HE : Hid (decide (ys = xs.take m) = false) := by
      show _ = _
      rw [decide_eq_false]
      intro e
      have := congrArg List.length e
      rw [List.length_take] at this
      omega
    have hle' : ¬ (m : Int) ≤ (n : Int) := by omega
    have hd : decide ((m : Int) ≤ (n : Int)) = false := by simpa using hle'
    go_enter Try.func101, Try.ntmps101
    go_wp2_with fail
    go_ret
    exact ⟨by rw [HE.out]; rfl, rfl⟩

end Go.Proofs.Ytcjkjenebnodbaa
