/-
  Plain facts for scanRow: which texts are rows, told from where the machine stands.
-/
import Derived.Test.YtfokolanjjiicaaDoorLawR
import Derived.Test.YtfokolanjjiicaaDoorScan
import Derived.Test.YtfokolanjjiicaaDoorJumps
namespace Go.Proofs.YtfokolanjjiicaaDoor
open Go.RowKit
set_option linter.unusedVariables false

/-- The text is no row. -/
def BadT (s : ByteArray) : Prop := (wordsRow (cutSt s (s.size + 1)).1).ok = false
/-- The numbers of words. -/
def numsOk (ws : List ByteArray) (n0 n1 n2 : Int) : Prop := ∀ i x, ws[i]? = some x → [n0, n1, n2].getD i 0 = wordNum x

theorem dig_not_blank {c : Int} (h : digB c = true) : c ≠ 32 := by have := digB_bounds h; omega

theorem num_wrong (s : ByteArray) (p j : Nat) (ws : List ByteArray) (hc : cutSt s p = (ws, p)) (hl : ws.length < 3) (hp : p ≤ s.size) (hr : IsRun s p j)
    (hw : (j = 0 ∨ (1 < j ∧ byteAt s p = 48)) ∨ (p + j < s.size ∧ byteAt s (p + j) ≠ 32)) : BadT s := by
  obtain ⟨n, hn, hb, he⟩ := word_end s p hp
  have hjn : j ≤ n := by
    by_cases h : j ≤ n
    · exact h
    · have h1 := hr.le
      have h2 := dig_not_blank (hr.digs n (by omega))
      rcases he with he | he
      · omega
      · exact absurd he h2
  have hx : wordNum (s.extract p (p + n)) = -1 := by
    refine wordNum_lead s p n j hn hjn (fun e => ?_) (fun hlt => ?_)
    · subst e
      rcases hw with h | ⟨h1, h2⟩
      · exact h
      · rcases he with he | he
        · omega
        · exact absurd he h2
    · rcases hr.last with h | h | h
      · omega
      · exact .inl h
      · exact .inr h
  obtain ⟨r, hrr⟩ := cut_more s (p + n + 1) (s.size - (p + n))
  rw [show p + n + 1 + (s.size - (p + n)) = s.size + 1 by omega, cut_word s p n hn hb he, hc] at hrr
  unfold BadT
  rw [hrr]
  simp only [List.append_assoc, List.singleton_append]
  exact bad_number ws _ r hl hx

theorem num_more (s : ByteArray) (p j : Nat) (ws : List ByteArray) (hc : cutSt s p = (ws, p)) (hr : IsRun s p j) (he : p + j = s.size ∨ byteAt s (p + j) = 32) :
    cutSt s (p + j + 1) = (ws ++ [s.extract p (p + j)], p + j + 1) := by
  rw [cut_word s p j hr.le (fun i hi => dig_not_blank (hr.digs i hi)) he, hc]

theorem nums_more (ws : List ByteArray) (x : ByteArray) (n0 n1 n2 : Int) (h : numsOk ws n0 n1 n2) (hl : ws.length < 3) :
    numsOk (ws ++ [x]) (if ws.length = 0 then wordNum x else n0) (if ws.length = 1 then wordNum x else n1) (if ws.length = 2 then wordNum x else n2) := by
  intro i y hy
  match ws, hl, h with
  | [], _, _ =>
    match i with
    | 0 => simp at hy; subst hy; rfl
    | i + 1 => simp at hy
  | [a], _, h =>
    match i with
    | 0 => simp at hy; subst hy; exact h 0 a rfl
    | 1 => simp at hy; subst hy; rfl
    | i + 2 => simp at hy
  | [a, b], _, h =>
    match i with
    | 0 => simp at hy; subst hy; exact h 0 a rfl
    | 1 => simp at hy; subst hy; exact h 1 b rfl
    | 2 => simp at hy; subst hy; rfl
    | i + 3 => simp at hy

theorem few_bad (l : List ByteArray) (h : l.length < 3) : (wordsRow l).ok = false := by
  match l, h with
  | [], _ => rfl
  | [_], _ => rfl
  | [_, _], _ => rfl
theorem five_bad (l : List ByteArray) (h : 5 ≤ l.length) : (wordsRow l).ok = false := by
  match l, h with
  | a :: b :: c :: d :: e :: r, _ => rfl

theorem cut_last (s : ByteArray) : (cutSt s (s.size + 1)).1 = (cutSt s s.size).1 ++ [s.extract (cutSt s s.size).2 s.size] := by rw [cutSt, if_pos (.inl rfl)]

theorem words4 (a b c x : ByteArray) : wordsRow [a, b, c, x] = ⟨wordNum a, wordNum b, wordNum c, x, faultI (wordNum a) (wordNum b) (wordNum c) x == 0 && !x.toList.isEmpty⟩ := rfl
theorem words3 (a b c : ByteArray) : wordsRow [a, b, c] = ⟨wordNum a, wordNum b, wordNum c, ⟨#[]⟩, faultI (wordNum a) (wordNum b) (wordNum c) ⟨#[]⟩ == 0⟩ := rfl
theorem loop_long (x : ByteArray) (i : Nat) (r : List UInt8) : r.length ≤ (ByteArray.toList.loop x i r).length := by
  fun_induction ByteArray.toList.loop x i r with
  | case1 i r h ih => simp at ih; omega
  | case2 i r h => simp
theorem toList_some (x : ByteArray) (h : 0 < x.size) : (!x.toList.isEmpty) = true := by
  unfold ByteArray.toList
  rw [ByteArray.toList.loop, if_pos h]
  have := loop_long x 1 [x.get! 0]
  cases e : ByteArray.toList.loop x (0 + 1) [x.get! 0] with
  | nil => rw [Nat.zero_add] at e; rw [e] at this; simp at this
  | cons _ _ => rfl

theorem letters_fault (t k v : Int) (x : ByteArray) (i : Nat) (hi : i < x.size) (h : lttB (byteAt x i) = false) : (faultI t k v x == 0) = false := by
  have h1 : allB x x.size = false := by
    cases hb : allB x x.size
    · rfl
    · unfold allB at hb
      rw [List.all_eq_true] at hb
      have := hb x[i] (by
        rw [List.take_of_length_le (by show x.data.toList.length ≤ x.data.size; rw [Array.length_toList]; exact Nat.le_refl _)]
        exact Array.mem_toList_iff.2 (Array.getElem_mem _))
      rw [byteAt_of x i hi] at h
      rw [h] at this
      cases this
  have h2 : txtB x = false := by simp [txtB, h1]
  unfold faultI
  rw [h2]
  split <;> rfl

theorem let_wrong (s : ByteArray) (p q : Nat) (ws : List ByteArray) (hc : cutSt s p = (ws, p)) (hl : ws.length = 3) (hpq : p ≤ q) (hq : q ≤ s.size)
    (hw : (q = s.size ∧ q = p) ∨ (q < s.size ∧ lttB (byteAt s q) = false)) (hlet : ∀ i, p ≤ i → i < q → lttB (byteAt s i) = true) : BadT s := by
  obtain ⟨n, hn, hb, he⟩ := word_end s p (by omega)
  unfold BadT
  by_cases hend : p + n = s.size
  · have e : (cutSt s (s.size + 1)).1 = ws ++ [s.extract p (p + n)] := by
      have := cut_word s p n hn hb he
      rw [hend, hc] at this
      rw [this, hend]
    rw [e]
    match ws, hl with
    | [a, b, c], _ =>
      show (wordsRow [a, b, c, s.extract p (p + n)]).ok = false
      rw [words4]
      rcases hw with ⟨h1, h2⟩ | ⟨h1, h2⟩
      · have h0 : n = 0 := by omega
        have hx : s.extract p (p + n) = ⟨#[]⟩ := by
          apply ByteArray.ext
          apply Array.eq_empty_of_size_eq_zero
          have := extract_size s p n hn
          rw [h0] at this ⊢
          exact this
        rw [hx]
        have : (ByteArray.mk #[]).toList.isEmpty = true := by rw [show (ByteArray.mk #[]).toList = [] from ByteArray.toList_empty]; rfl
        rw [this]
        simp
      · have hqn : q - p < n := by omega
        simp only
        rw [letters_fault _ _ _ _ (q - p) (by rw [extract_size s p n hn]; exact hqn) (by rw [extract_at s p n hn (q - p) hqn, show p + (q - p) = q by omega]; exact h2)]
        rfl
  · obtain ⟨r, hrr⟩ := cut_more s (p + n + 1) (s.size - (p + n + 1))
    rw [show p + n + 1 + (s.size - (p + n + 1)) = s.size by omega, cut_word s p n hn hb he, hc] at hrr
    rw [cut_last, hrr]
    exact five_bad _ (by simp; omega)

theorem let_end (s : ByteArray) (p : Nat) (ws : List ByteArray) (n0 n1 n2 : Int) (hc : cutSt s p = (ws, p)) (hl : ws.length = 3) (hn : numsOk ws n0 n1 n2) (hp : p < s.size)
    (hlet : ∀ i, p ≤ i → i < s.size → lttB (byteAt s i) = true) : ScanOk s n0 n1 n2 (s.extract p s.size) true := by
  have hb : ∀ i, i < s.size - p → byteAt s (p + i) ≠ 32 := fun i hi => by
    have := hlet (p + i) (by omega) (by omega)
    simp [lttB] at this
    omega
  have e : (cutSt s (s.size + 1)).1 = ws ++ [s.extract p s.size] := by
    have := cut_word s p (s.size - p) (by omega) hb (.inl (by omega))
    rw [show p + (s.size - p) = s.size by omega, hc] at this
    rw [this]
  unfold ScanOk
  rw [e]
  match ws, hl, hn with
  | [a, b, c], _, hn =>
    have h0 : n0 = wordNum a := hn 0 a rfl
    have h1 : n1 = wordNum b := hn 1 b rfl
    have h2 : n2 = wordNum c := hn 2 c rfl
    subst h0 h1 h2
    show (true = true ∧ faultI _ _ _ _ = 0 ∧ wordsRow [a, b, c, s.extract p s.size] = _) ∨ (¬ (true = true ∧ faultI _ _ _ _ = 0) ∧ (wordsRow [a, b, c, s.extract p s.size]).ok = false)
    have hne : (!(s.extract p s.size).toList.isEmpty) = true := by
      have hz := extract_size s p (s.size - p) (by omega)
      rw [show p + (s.size - p) = s.size by omega] at hz
      exact toList_some _ (by rw [hz]; omega)
    by_cases hf : faultI (wordNum a) (wordNum b) (wordNum c) (s.extract p s.size) = 0
    · refine .inl ⟨rfl, hf, ?_⟩
      rw [words4, hf, hne]
      rfl
    · refine .inr ⟨fun h => hf h.2, ?_⟩
      rw [words4]
      simp only
      rw [show (faultI (wordNum a) (wordNum b) (wordNum c) (s.extract p s.size) == 0) = false by simpa using hf]
      rfl

theorem three_end (s : ByteArray) (ws : List ByteArray) (n0 n1 n2 : Int) (e : (cutSt s (s.size + 1)).1 = ws) (hl : ws.length = 3) (hn : numsOk ws n0 n1 n2) : ScanOk s n0 n1 n2 ⟨#[]⟩ true := by
  unfold ScanOk
  rw [e]
  match ws, hl, hn with
  | [a, b, c], _, hn =>
    have h0 : n0 = wordNum a := hn 0 a rfl
    have h1 : n1 = wordNum b := hn 1 b rfl
    have h2 : n2 = wordNum c := hn 2 c rfl
    subst h0 h1 h2
    by_cases hf : faultI (wordNum a) (wordNum b) (wordNum c) ⟨#[]⟩ = 0
    · refine .inl ⟨rfl, hf, ?_⟩
      rw [words3, hf]
      rfl
    · refine .inr ⟨fun h => hf h.2, ?_⟩
      rw [words3]
      simpa using hf

/-- n bytes of a text from place p on. -/
def bytesL (s : ByteArray) (p n : Nat) : List Int := (List.range n).map fun i => byteAt s (p + i)
theorem bytesL_length (s : ByteArray) (p n : Nat) : (bytesL s p n).length = n := by simp [bytesL]
theorem bytesL_succ (s : ByteArray) (p n : Nat) : bytesL s p (n + 1) = bytesL s p n ++ [byteAt s (p + n)] := by simp [bytesL, List.range_succ]
theorem bytesL_str (s : ByteArray) (p n : Nat) (h : p + n ≤ s.size) : strOfNums (bytesL s p n) = s.extract p (p + n) := by
  apply ByteArray.ext
  apply Array.ext
  · have := extract_size s p n h
    have h2 := strOfNums_size (bytesL s p n)
    rw [bytesL_length] at h2
    exact h2.trans this.symm
  · intro i h1 h2
    have hi : i < n := by
      have h3 : i < (strOfNums (bytesL s p n)).size := h1
      rw [strOfNums_size, bytesL_length] at h3
      exact h3
    have e1 : (s.extract p (p + n)).data[i]'h2 = s[p + i]'(by omega) := ByteArray.getElem_extract (h := h2)
    rw [e1]
    simp [strOfNums, bytesL, byteAt_of s (p + i) (by omega)]

end Go.Proofs.YtfokolanjjiicaaDoor
