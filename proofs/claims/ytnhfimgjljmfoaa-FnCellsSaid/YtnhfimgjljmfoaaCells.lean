/-
  Plain facts: a cell is read back as what it was made of, and made of what it is read as.
-/
import Derived.Test.YtnhfimgjljmfoaaUnpI
import Derived.Test.YtnhfimgjljmfoaaPack
namespace Go.Proofs.Ytnhfimgjljmfoaa
open Go.RowKit

theorem six_and_more (ys : List Int) (h : 6 ≤ ys.length) : ys = [ys.getD 0 0, ys.getD 1 0, ys.getD 2 0, ys.getD 3 0, ys.getD 4 0, ys.getD 5 0] ++ ys.drop 6 := by
  match ys, h with
  | a :: b :: c :: d :: e :: f :: r, _ => rfl

theorem three_only (ys : List Int) (h : ys.length = 3) : ys = [ys.getD 0 0, ys.getD 1 0, ys.getD 2 0] := by
  match ys, h with
  | [a, b, c], _ => rfl

theorem bytes_back (zs : List Int) (hz : ∀ z ∈ zs, 0 ≤ z ∧ z ≤ 255) : ((strOfNums zs).data.toList.map fun b => (b.toNat : Int)) = zs := by
  rw [strOfNums_data, List.map_map]
  conv => rhs; rw [← List.map_id zs]
  apply List.map_congr_left
  intro z h
  have := hz z h
  simp
  omega

theorem str_back (s : ByteArray) : strOfNums (s.data.toList.map fun b => (b.toNat : Int)) = s := by
  apply ByteArray.ext
  apply Array.ext'
  rw [strOfNums_data, List.map_map]
  conv => rhs; rw [← List.map_id s.data.toList]
  apply List.map_congr_left
  intro b _
  simp

theorem unp_stub {ys : List Int} {p l t k v : Int} {s : ByteArray} (h : unp ys = ⟨0, 1, p, l, t, k, v, s⟩) : stubBytes p l = ys := by
  unfold unp at h
  by_cases h0 : ys = []
  · rw [if_pos h0] at h; simp [errC] at h
  rw [if_neg h0] at h
  by_cases h1 : ys.getD 0 0 = 1
  · rw [if_pos h1, stubC] at h
    by_cases h3 : ys.length = 3 ∧ stubB (ys.getD 1 0) (ys.getD 2 0) = true
    · rw [if_pos h3] at h
      simp only [Cel.mk.injEq] at h
      obtain ⟨_, _, rfl, rfl, _⟩ := h
      rw [stubBytes, if_pos h3.2]
      conv => rhs; rw [three_only ys h3.1]
      rw [h1]
    · rw [if_neg h3] at h; simp [errC] at h
  · rw [if_neg h1] at h
    by_cases h2 : ys.getD 0 0 = 0 ∨ ys.getD 0 0 = 2
    · rw [if_pos h2, rowC] at h
      split at h
      · simp only [Cel.mk.injEq] at h
        omega
      · simp [errC] at h
    · rw [if_neg h2] at h; simp [errC] at h

theorem unp_row {ys : List Int} {f p l t k v : Int} {s : ByteArray} (h : unp ys = ⟨0, f, p, l, t, k, v, s⟩) (hf : f ≠ 1) (hz : ∀ z ∈ ys, 0 ≤ z ∧ z ≤ 255) : packBytes f t k v s = ys := by
  unfold unp at h
  by_cases h0 : ys = []
  · rw [if_pos h0] at h; simp [errC] at h
  rw [if_neg h0] at h
  by_cases h1 : ys.getD 0 0 = 1
  · rw [if_pos h1, stubC] at h
    split at h
    · simp only [Cel.mk.injEq] at h
      omega
    · simp [errC] at h
  · rw [if_neg h1] at h
    by_cases h2 : ys.getD 0 0 = 0 ∨ ys.getD 0 0 = 2
    · rw [if_pos h2, rowC] at h
      by_cases h6 : 6 ≤ ys.length ∧ (ys.length : Int) = 6 + ys.getD 5 0 ∧ faultI (ys.getD 1 0) (ys.getD 2 0) (ys.getD 3 0 * 256 + ys.getD 4 0) (textC ys) = 0
      · rw [if_pos h6] at h
        simp only [Cel.mk.injEq] at h
        obtain ⟨_, rfl, _, _, rfl, rfl, rfl, rfl⟩ := h
        have r3 := getD_range hz 3
        have r4 := getD_range hz 4
        have hc : packCode (ys.getD 0 0) (ys.getD 1 0) (ys.getD 2 0) (ys.getD 3 0 * 256 + ys.getD 4 0) (textC ys) = 0 := by
          rw [packCode, if_pos h2]; exact h6.2.2
        rw [packBytes, if_pos hc, cellBytes]
        conv => rhs; rw [six_and_more ys h6.1]
        have e1 : (ys.getD 3 0 * 256 + ys.getD 4 0) / 256 = ys.getD 3 0 := by omega
        have e2 : (ys.getD 3 0 * 256 + ys.getD 4 0) % 256 = ys.getD 4 0 := by omega
        have e3 : ((textC ys).size : Int) = ys.getD 5 0 := by rw [textC_size]; omega
        rw [e1, e2, e3, textC, bytes_back _ (fun z hzz => hz z (List.mem_of_mem_drop hzz))]
      · rw [if_neg h6] at h; simp [errC] at h
    · rw [if_neg h2] at h; simp [errC] at h

theorem unp_of_stub {p l : Int} (h : stubB p l = true) : unp (stubBytes p l) = ⟨0, 1, p, l, 0, 0, 0, ⟨#[]⟩⟩ := by
  rw [stubBytes, if_pos h, unp, if_neg (by simp), if_pos (by simp), stubC, if_pos ⟨rfl, by simpa using h⟩]
  simp

theorem unp_of_row {f t k v : Int} {s : ByteArray} (h : packCode f t k v s = 0) : unp (packBytes f t k v s) = ⟨0, f, 0, 0, t, k, v, s⟩ := by
  have hf : f = 0 ∨ f = 2 := by
    unfold packCode at h
    split at h
    · assumption
    · omega
  have hq : faultI t k v s = 0 := by rw [packCode, if_pos hf] at h; exact h
  obtain ⟨ht, hk, hv, hs, _⟩ := fault_zero hq
  have hl := cellBytes_length f t k v s
  have htx : textC (cellBytes f t k v s) = s := by
    rw [textC, cellBytes]
    show strOfNums (s.data.toList.map fun b => (b.toNat : Int)) = s
    exact str_back s
  have e0 : (cellBytes f t k v s).getD 0 0 = f := rfl
  have e1 : (cellBytes f t k v s).getD 1 0 = t := rfl
  have e2 : (cellBytes f t k v s).getD 2 0 = k := rfl
  have e3 : (cellBytes f t k v s).getD 3 0 = v / 256 := rfl
  have e4 : (cellBytes f t k v s).getD 4 0 = v % 256 := rfl
  have e5 : (cellBytes f t k v s).getD 5 0 = (s.size : Int) := rfl
  have ev : v / 256 * 256 + v % 256 = v := by omega
  rw [packBytes, if_pos h, unp, if_neg (fun hh => by rw [hh] at hl; simp at hl; omega), e0, if_neg (by omega), if_pos hf, rowC, e0, e1, e2, e3, e4, e5, ev, htx, if_pos ⟨by omega, by omega, hq⟩]

end Go.Proofs.Ytnhfimgjljmfoaa
