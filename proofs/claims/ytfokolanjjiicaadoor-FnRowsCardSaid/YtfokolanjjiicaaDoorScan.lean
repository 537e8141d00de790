/-
  Plain facts on words: where a word ends, what number it is, and which words are no row.
-/
import Derived.Test.YtfokolanjjiicaaDoorPRow
namespace Go.Proofs.YtfokolanjjiicaaDoor

theorem cut_steady (s : ByteArray) (p : Nat) : ∀ n, p + n ≤ s.size → (∀ i, i < n → byteAt s (p + i) ≠ 32) → cutSt s (p + n) = cutSt s p
  | 0, _, _ => rfl
  | n + 1, h, hb => by
    rw [← Nat.add_assoc, cutSt, if_neg (fun hh => by rcases hh with hh | hh; omega; exact hb n (by omega) hh)]
    exact cut_steady s p n (by omega) (fun i hi => hb i (by omega))

theorem cut_word (s : ByteArray) (p n : Nat) (h : p + n ≤ s.size) (hb : ∀ i, i < n → byteAt s (p + i) ≠ 32) (he : p + n = s.size ∨ byteAt s (p + n) = 32) :
    cutSt s (p + n + 1) = ((cutSt s p).1 ++ [s.extract (cutSt s p).2 (p + n)], p + n + 1) := by
  rw [cutSt, if_pos he, cut_steady s p n h hb]

theorem cut_more (s : ByteArray) (i : Nat) : ∀ n, ∃ r, (cutSt s (i + n)).1 = (cutSt s i).1 ++ r
  | 0 => ⟨[], by simp⟩
  | n + 1 => by
    obtain ⟨r, hr⟩ := cut_more s i n
    rw [← Nat.add_assoc, cutSt]
    split
    · exact ⟨r ++ [s.extract (cutSt s (i + n)).2 (i + n)], by rw [hr, List.append_assoc]⟩
    · exact ⟨r, hr⟩

/-- The word that begins at place p ends somewhere. -/
theorem word_end (s : ByteArray) (p : Nat) (hp : p ≤ s.size) : ∃ n, p + n ≤ s.size ∧ (∀ i, i < n → byteAt s (p + i) ≠ 32) ∧ (p + n = s.size ∨ byteAt s (p + n) = 32) := by
  have key : ∀ m, p + m ≤ s.size → (∃ n, n ≤ m ∧ (∀ i, i < n → byteAt s (p + i) ≠ 32) ∧ byteAt s (p + n) = 32) ∨ (∀ i, i < m → byteAt s (p + i) ≠ 32) := by
    intro m
    induction m with
    | zero => intro _; exact .inr (fun i hi => by omega)
    | succ m ih =>
      intro hm
      rcases ih (by omega) with ⟨n, hn, h1, h2⟩ | h
      · exact .inl ⟨n, by omega, h1, h2⟩
      · by_cases e : byteAt s (p + m) = 32
        · exact .inl ⟨m, by omega, h, e⟩
        · refine .inr (fun i hi => ?_)
          by_cases ei : i = m
          · subst ei; exact e
          · exact h i (by omega)
  rcases key (s.size - p) (by omega) with ⟨n, hn, h1, h2⟩ | h
  · exact ⟨n, by omega, h1, .inr h2⟩
  · exact ⟨s.size - p, by omega, h, .inl (by omega)⟩

theorem extract_size (s : ByteArray) (p n : Nat) (h : p + n ≤ s.size) : (s.extract p (p + n)).size = n := by
  rw [ByteArray.size_extract]; omega

theorem extract_at (s : ByteArray) (p n : Nat) (h : p + n ≤ s.size) (i : Nat) (hi : i < n) : byteAt (s.extract p (p + n)) i = byteAt s (p + i) := by
  rw [byteAt_of _ _ (by rw [extract_size s p n h]; exact hi), byteAt_of _ _ (by omega), ByteArray.getElem_extract]

theorem numOf_extract (s : ByteArray) (p n : Nat) (h : p + n ≤ s.size) : ∀ j, j ≤ n → numOf (s.extract p (p + n)) 0 j = numOf s p j
  | 0, _ => rfl
  | j + 1, hj => by rw [numOf, numOf, numOf_extract s p n h j (by omega), Nat.zero_add, extract_at s p n h j (by omega)]

theorem wordNum_run (s : ByteArray) (p j : Nat) (hr : IsRun s p j) (h0 : ¬ (j = 0 ∨ (1 < j ∧ byteAt s p = 48))) : wordNum (s.extract p (p + j)) = numOf s p j := by
  have hz := extract_size s p j hr.le
  have hj : 0 < j := by omega
  have hb := extract_at s p j hr.le 0 hj
  rw [Nat.add_zero] at hb
  have hd : allDigB (s.extract p (p + j)) = true := by
    rw [allDigB_iff]
    intro i hi
    rw [hz] at hi
    rw [extract_at s p j hr.le i hi]
    exact hr.digs i hi
  rw [wordNum, hz, hb, if_pos ⟨⟨by omega, hr.four, fun h => h0 (.inr h)⟩, hd⟩, numOf_extract s p j hr.le j (Nat.le_refl _)]

theorem wordNum_lead (s : ByteArray) (p n j : Nat) (h : p + n ≤ s.size) (hj : j ≤ n) (hw : n = j → (j = 0 ∨ (1 < j ∧ byteAt s p = 48))) (hl : j < n → j = 4 ∨ digB (byteAt s (p + j)) = false) : wordNum (s.extract p (p + n)) = -1 := by
  have hz := extract_size s p n h
  rw [wordNum, hz, if_neg]
  rintro ⟨⟨h1, h4, h48⟩, hd⟩
  rw [allDigB_iff] at hd
  by_cases e : n = j
  · rcases hw e with h0 | ⟨h2, h3⟩
    · omega
    · have hb := extract_at s p n h 0 (by omega)
      rw [Nat.add_zero] at hb
      exact h48 ⟨by omega, by rw [hb]; exact h3⟩
  · rcases hl (by omega) with h5 | h5
    · omega
    · have hx := hd j (by rw [hz]; omega)
      rw [extract_at s p n h j (by omega), h5] at hx
      cases hx

theorem bad_number (a : List ByteArray) (x : ByteArray) (r : List ByteArray) (ha : a.length < 3) (hx : wordNum x = -1) : (wordsRow (a ++ x :: r)).ok = false := by
  match a, ha with
  | [], _ =>
    match r with
    | [] => rfl
    | [_] => rfl
    | [y, z] => simp [wordsRow, hx, faultI, rngB, inB]
    | [y, z, s] => simp [wordsRow, hx, faultI, rngB, inB]
    | _ :: _ :: _ :: _ :: _ => rfl
  | [u], _ =>
    match r with
    | [] => rfl
    | [z] => simp [wordsRow, hx, faultI, rngB, inB]
    | [z, s] => simp [wordsRow, hx, faultI, rngB, inB]
    | _ :: _ :: _ :: _ => rfl
  | [u, v], _ =>
    match r with
    | [] => simp [wordsRow, hx, faultI, rngB, inB]
    | [s] => simp [wordsRow, hx, faultI, rngB, inB]
    | _ :: _ :: _ => rfl

end Go.Proofs.YtfokolanjjiicaaDoor
