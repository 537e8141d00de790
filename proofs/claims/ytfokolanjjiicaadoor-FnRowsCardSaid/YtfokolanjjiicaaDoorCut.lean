/-
  The contract of the model's l1Cut: the words between blanks.
-/
import Derived.Test.YtfokolanjjiicaaDoorNum
import Derived.Test.YtfokolanjjiicaaDoorCopy
namespace Go.Proofs.YtfokolanjjiicaaDoor
open Go.RowKit

theorem info9' : (Tryd.prog.info? 9).map (fun i => (i.zero, i.size, i.bytes)) = some (some (.string ⟨#[]⟩), 1, 16) := by kernel_rfl
theorem info9 : ∃ i, Tryd.prog.info? 9 = some i ∧ i.zero = some (.string ⟨#[]⟩) ∧ i.size = 1 ∧ i.bytes = 16 := by
  have h := info9'
  cases hi : Tryd.prog.info? 9 with
  | none => rw [hi] at h; simp at h
  | some i => rw [hi] at h; simp at h; exact ⟨i, rfl, h.1, h.2.1, h.2.2⟩

/-- The words that are cut ahead of place i, and where the next one begins. -/
def cutSt (s : ByteArray) : Nat → List ByteArray × Nat
  | 0 => ([], 0)
  | i + 1 => if i = s.size ∨ byteAt s i = 32 then ((cutSt s i).1 ++ [s.extract (cutSt s i).2 i], i + 1) else cutSt s i

theorem cutSt_le (s : ByteArray) : ∀ i, (cutSt s i).2 ≤ i ∧ (cutSt s i).1.length ≤ i
  | 0 => by simp [cutSt]
  | i + 1 => by
    have ih := cutSt_le s i
    rw [cutSt]
    split
    · simp; omega
    · omega

set_option maxHeartbeats 1000000 in
theorem l1Cut_any (s : ByteArray) (w : World) (hs : s.size ≤ 1048576) :
    Calls Tryd.prog 26 #[.string s, .int .u8 32] w fun e w' => ∃ v, e = .returned v ∧ Below w.heap.size w w' ∧ w'.ownsRow w.heap.size 9 1 v (cutSt s (s.size + 1)).1.length ((cutSt s (s.size + 1)).1.map Value.string) := by
  obtain ⟨i0, hi, hz0, hz1, hz2⟩ := info9
  go_enter Tryd.func26, Tryd.ntmps26
  go_wp2_with fail
  go_loopw [5, 6, 7] (fun v f i wr => ∃ k : Nat, k ≤ s.size + 1 ∧ i = .int .i64 k ∧ f = .int .i64 (cutSt s k).2 ∧ wr.ownsRow w.heap.size 9 1 v (cutSt s k).1.length ((cutSt s k).1.map Value.string) ∧ Below w.heap.size w wr) (fun _ _ i _ => s.size + 1 - (intOf i).toNat)
  case atStart => exact ⟨0, by omega, rfl, rfl, by simpa [cutSt] using World.ownsRow_lit (base := w.heap.size) (e := 9) (size := 1) w #[] 0 (Nat.le_refl _) (by unfold maxLen; omega) rfl, by go_grown⟩
  case round =>
    obtain ⟨k, hk, rfl, rfl, hown, hB⟩ := hrel
    have hle := cutSt_le s k
    by_cases hlt : k ≤ s.size
    · have dk : (k : Int) ≤ (s.size : Int) := by omega
      by_cases hend : k = s.size
      · have de : ((k : Int) == (s.size : Int)) = true := by simp; omega
        have HW : Hid (k = s.size ∨ byteAt s k = 32) := .inl hend
        have hkk : k ≤ s.size := hlt
        have HEnd : Hid (k = s.size) := hend
        clear hend
        have HC : Hid (cutSt s (k + 1) = ((cutSt s k).1 ++ [s.extract (cutSt s k).2 k], k + 1)) := by show cutSt s (k + 1) = _; rw [cutSt, if_pos HW.out]
        generalize hst : cutSt s k = st at hown hle HC
        obtain ⟨ws, fr⟩ := st
        clear hst
        simp only at hown hle HC
        have hfr : (fr : Int) ≤ (k : Int) := by omega
        have hkl : (k : Int) ≤ (s.size : Int) := by omega
        go_wp2_with (at_builtin; go_must (refine wpList_append_own _ rfl _ _ 54 rfl w.heap.size 9 i0 (.string ⟨#[]⟩) 1 16 Tryd.underlying54 hi hz0 hz1 hz2 rfl (by decide) _ _ _ rfl (hown.alloc _) ⟨wr.heap.size, 0, none⟩ 1 1 [.string (s.extract fr k)] rfl rfl ?c1 ?c2 ?c3 ?c4 ?c5 ?_))
        case c1 =>
          intro j u hj
          match j, hj with
          | 0, hj => simp at hj; subst hj; simp [Addr.add]
        case c2 => intro u hu; simp at hu; subst hu; rfl
        case c3 => unfold maxLen; omega
        case c4 => omega
        case c5 => have := hB.size; simp; omega
        intro v' w1 hown' hgrow _
        have hB' : Below w.heap.size w w1 := Below.grown (hB.alloc hB.size _) hgrow (by have := hB.size; simp; omega) (fun j hj => (hown.lt j hj).1)
        clear hgrow hown
        go_wp2_with fail
        go_roundw
        case rel =>
          refine ⟨k + 1, by omega, by go_num, by rw [HC.out]; go_num, ?_, hB'⟩
          rw [HC.out]
          simpa using hown'
        case measure => simp [intOf]; omega
      · have de : ((k : Int) == (s.size : Int)) = false := by simp; omega
        have hls : k < s.size := by omega
        have hli : (k : Int) < (s.size : Int) := by omega
        by_cases hb : byteAt s k = 32
        · have db : ((s[k].toNat : Int) == 32) = true := by rw [← byteAt_of s k hls]; exact beq_iff_eq.2 hb
          have HW : Hid (k = s.size ∨ byteAt s k = 32) := .inr hb
          clear hb
          have HC : Hid (cutSt s (k + 1) = ((cutSt s k).1 ++ [s.extract (cutSt s k).2 k], k + 1)) := by show cutSt s (k + 1) = _; rw [cutSt, if_pos HW.out]
          generalize hst : cutSt s k = st at hown hle HC
          obtain ⟨ws, fr⟩ := st
          clear hst
          simp only at hown hle HC
          have hfr : (fr : Int) ≤ (k : Int) := by omega
          have hkl : (k : Int) ≤ (s.size : Int) := by omega
          go_wp2_with (at_builtin; go_must (refine wpList_append_own _ rfl _ _ 54 rfl w.heap.size 9 i0 (.string ⟨#[]⟩) 1 16 Tryd.underlying54 hi hz0 hz1 hz2 rfl (by decide) _ _ _ rfl (hown.alloc _) ⟨wr.heap.size, 0, none⟩ 1 1 [.string (s.extract fr k)] rfl rfl ?c1 ?c2 ?c3 ?c4 ?c5 ?_))
          case c1 =>
            intro j u hj
            match j, hj with
            | 0, hj => simp at hj; subst hj; simp [Addr.add]
          case c2 => intro u hu; simp at hu; subst hu; rfl
          case c3 => unfold maxLen; omega
          case c4 => omega
          case c5 => have := hB.size; simp; omega
          intro v' w1 hown' hgrow _
          have hB' : Below w.heap.size w w1 := Below.grown (hB.alloc hB.size _) hgrow (by have := hB.size; simp; omega) (fun j hj => (hown.lt j hj).1)
          clear hgrow hown
          go_wp2_with fail
          go_roundw
          case rel =>
            refine ⟨k + 1, by omega, by go_num, by rw [HC.out]; go_num, ?_, hB'⟩
            rw [HC.out]
            simpa using hown'
          case measure => simp [intOf]; omega
        · have db : ((s[k].toNat : Int) == 32) = false := by rw [← byteAt_of s k hls]; exact beq_eq_false_iff_ne.2 hb
          have HC : Hid (cutSt s (k + 1) = cutSt s k) := by show cutSt s (k + 1) = _; rw [cutSt, if_neg (fun h => by rcases h with h | h; exact hend h; exact hb h)]
          clear hb
          go_wp2_with fail
          go_roundw
          case rel => exact ⟨k + 1, by omega, by go_num, by rw [HC.out], by rw [HC.out]; exact hown, hB⟩
          case measure => simp [intOf]; omega
    · have e : k = s.size + 1 := by omega
      subst e
      have dk : ¬ (((s.size + 1 : Nat) : Int) ≤ (s.size : Int)) := by omega
      go_wp2_with fail
      go_ret
      exact ⟨_, rfl, hB, hown⟩

end Go.Proofs.YtfokolanjjiicaaDoor
