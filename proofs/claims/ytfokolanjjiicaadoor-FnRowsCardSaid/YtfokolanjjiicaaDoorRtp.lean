/-
  Plain facts: a row's text is cut into its words, and the words' numbers are its numbers; and the other way round.
-/
import Derived.Test.YtfokolanjjiicaaDoorScan
import Derived.Test.YtfokolanjjiicaaDoorLawX
namespace Go.Proofs.YtfokolanjjiicaaDoor
set_option linter.unusedVariables false

/-- The bytes of a text. -/
def L (s : ByteArray) : List UInt8 := s.data.toList
theorem L_size (s : ByteArray) : (L s).length = s.size := Array.length_toList
theorem L_ext {s t : ByteArray} (h : L s = L t) : s = t := by
  apply ByteArray.ext
  exact Array.toList_inj.1 h
theorem L_append (s t : ByteArray) : L (s ++ t) = L s ++ L t := by simp [L]
theorem L_extract (s : ByteArray) (i j : Nat) : L (s.extract i j) = ((L s).drop i).take (j - i) := by
  simp [L, ByteArray.data_extract, Array.toList_extract, List.extract]
theorem byteAt_L (s : ByteArray) (i : Nat) : byteAt s i = (((L s).getD i 0).toNat : Int) := by
  unfold byteAt
  split
  · rename_i h
    have h' : i < (L s).length := by rw [L_size]; exact h
    rw [List.getD, List.getElem?_eq_getElem h', Option.getD_some]
    rfl
  · rename_i h
    have h' : (L s).length ≤ i := by rw [L_size]; omega
    rw [List.getD, List.getElem?_eq_none h']
    rfl

/-- Words with a blank behind each. -/
def jl : List ByteArray → List UInt8
  | [] => []
  | w :: ws => L w ++ 32 :: jl ws
theorem jl_append : ∀ a b : List ByteArray, jl (a ++ b) = jl a ++ jl b
  | [], b => rfl
  | w :: a, b => by simp [jl, jl_append a b]

theorem take_next {α : Type} (l : List α) (i : Nat) (d : α) (h : i < l.length) : l.take (i + 1) = l.take i ++ [l.getD i d] := by
  rw [List.take_add_one, List.getD, List.getElem?_eq_getElem h]
  rfl

theorem cut_join (s : ByteArray) : ∀ i, i ≤ s.size → jl (cutSt s i).1 ++ ((L s).drop (cutSt s i).2).take (i - (cutSt s i).2) = (L s).take i
  | 0, _ => by simp [cutSt, jl]
  | i + 1, hi => by
    have ih := cut_join s i (by omega)
    have hle := (cutSt_le s i).1
    have hl : i < (L s).length := by rw [L_size]; omega
    rw [take_next (L s) i 0 hl, ← ih, cutSt]
    by_cases hb : byteAt s i = 32
    · rw [if_pos (.inr hb)]
      have h32 : (L s).getD i 0 = 32 := by
        rw [byteAt_L] at hb
        apply UInt8.toNat_inj.1
        show _ = 32
        omega
      rw [h32]
      simp [jl_append, jl, L_extract]
    · rw [if_neg (by intro h; rcases h with h | h; omega; exact hb h), List.append_assoc]
      congr 1
      have hd : i - (cutSt s i).2 < ((L s).drop (cutSt s i).2).length := by rw [List.length_drop]; omega
      have := take_next ((L s).drop (cutSt s i).2) (i - (cutSt s i).2) 0 hd
      rw [show i + 1 - (cutSt s i).2 = i - (cutSt s i).2 + 1 by omega, this]
      congr 2
      simp only [List.getD, List.getElem?_drop]
      rw [show (cutSt s i).2 + (i - (cutSt s i).2) = i by omega]

theorem cut_glue (s : ByteArray) : ∃ ws x, (cutSt s (s.size + 1)).1 = ws ++ [x] ∧ L s = jl ws ++ L x := by
  refine ⟨(cutSt s s.size).1, s.extract (cutSt s s.size).2 s.size, by rw [cutSt, if_pos (.inl rfl)], ?_⟩
  rw [L_extract, cut_join s s.size (Nat.le_refl _), ← L_size, List.take_length]

/-- No blank in a word. -/
def noB (l : List UInt8) : Prop := ∀ c ∈ l, c ≠ 32

theorem cut_of_glue (s x : ByteArray) (hx : noB (L x)) : ∀ (ws : List ByteArray) (pre : List UInt8) (W : List ByteArray), (∀ w ∈ ws, noB (L w)) → L s = pre ++ (jl ws ++ L x) → cutSt s pre.length = (W, pre.length) → (cutSt s (s.size + 1)).1 = W ++ (ws ++ [x])
  | [], pre, W, _, hs, hc => by
    simp only [jl, List.nil_append] at hs
    have hz : pre.length + x.size = s.size := by have := congrArg List.length hs; rw [List.length_append, L_size, L_size] at this; omega
    have hw := cut_word s pre.length x.size (by omega) (fun i hi => by
      rw [byteAt_L, hs]
      intro h
      have hi' : i < (L x).length := by rw [L_size]; exact hi
      have e : (pre ++ L x).getD (pre.length + i) 0 = (L x)[i] := by simp [List.getD, List.getElem?_append_right, List.getElem?_eq_getElem hi']
      rw [e] at h
      refine hx _ (List.getElem_mem hi') (UInt8.toNat_inj.1 ?_)
      show _ = 32
      omega) (.inl hz)
    rw [hz, hc] at hw
    rw [hw]
    simp only [List.nil_append]
    congr 2
    apply L_ext
    rw [L_extract, hs, ← hz]
    simp [← L_size]
  | w :: ws, pre, W, hn, hs, hc => by
    have hs' : L s = (pre ++ (L w ++ [32])) ++ (jl ws ++ L x) := by rw [hs]; simp [jl]
    have hz : pre.length + w.size + 1 ≤ s.size := by have := congrArg List.length hs'; simp only [List.length_append, L_size, List.length_singleton] at this; omega
    have hw := cut_word s pre.length w.size (by omega) (fun i hi => by
      rw [byteAt_L, hs']
      intro h
      have hi' : i < (L w).length := by rw [L_size]; exact hi
      have e : (pre ++ (L w ++ [32]) ++ (jl ws ++ L x)).getD (pre.length + i) 0 = (L w)[i] := by
        simp only [List.append_assoc, List.getD]
        rw [List.getElem?_append_right (by omega), show pre.length + i - pre.length = i by omega, List.getElem?_append_left hi', List.getElem?_eq_getElem hi']
        rfl
      rw [e] at h
      refine hn w (by simp) _ (List.getElem_mem hi') (UInt8.toNat_inj.1 ?_)
      show _ = 32
      omega) (.inr (by
        rw [byteAt_L, hs']
        have e : (pre ++ (L w ++ [32]) ++ (jl ws ++ L x)).getD (pre.length + w.size) 0 = 32 := by
          simp only [List.append_assoc, List.getD]
          rw [List.getElem?_append_right (by omega), show pre.length + w.size - pre.length = w.size by omega, List.getElem?_append_right (by rw [L_size]; omega), L_size]
          simp
        rw [e]
        rfl))
    rw [hc] at hw
    have hl : (pre ++ (L w ++ [32])).length = pre.length + w.size + 1 := by simp [L_size]; omega
    have hwx : s.extract pre.length (pre.length + w.size) = w := by
      apply L_ext
      rw [L_extract, hs']
      simp [← L_size]
    have := cut_of_glue s x hx ws (pre ++ (L w ++ [32])) (W ++ [w]) (fun y hy => hn y (by simp [hy])) hs' (by rw [hl, hw, hwx])
    rw [this]
    simp

/-- The number that digits make. -/
def numL (l : List UInt8) : Int := l.foldl (fun a c => a * 10 + ((c.toNat : Int) - 48)) 0
theorem numL_snoc (l : List UInt8) (c : UInt8) : numL (l ++ [c]) = numL l * 10 + ((c.toNat : Int) - 48) := by simp [numL, List.foldl_append]

def digL (l : List UInt8) : Prop := ∀ c ∈ l, 48 ≤ c.toNat ∧ c.toNat ≤ 57

theorem numOf_L (s : ByteArray) : ∀ j, j ≤ s.size → numOf s 0 j = numL ((L s).take j)
  | 0, _ => by simp [numOf, numL]
  | j + 1, hj => by
    rw [numOf, numOf_L s j (by omega), take_next (L s) j 0 (by rw [L_size]; omega), numL_snoc, Nat.zero_add, byteAt_L]

theorem dig_toNat {d : Nat} (h : d < 10) : (UInt8.ofNat (48 + d)).toNat = 48 + d := by
  rw [UInt8.toNat_ofNat']
  omega

theorem numL_dec (n : Nat) : numL (Lib.decDigits n) = n ∧ digL (Lib.decDigits n) ∧ 1 ≤ (Lib.decDigits n).length ∧ (10 ≤ n → (Lib.decDigits n).getD 0 0 ≠ 48) ∧ (1 ≤ n → (Lib.decDigits n).getD 0 0 ≠ 48) := by
  induction n using Nat.strongRecOn with
  | _ n ih =>
    by_cases h : n < 10
    · rw [Lib.decDigits_one h]
      refine ⟨?_, ?_, by simp, fun h' => absurd h (by omega), fun h1 e => ?_⟩
      · show 0 * 10 + (((UInt8.ofNat (48 + n)).toNat : Int) - 48) = n
        rw [dig_toNat h]; omega
      · intro c hc
        rw [List.mem_singleton] at hc
        subst hc
        rw [dig_toNat h]; omega
      · have e' : UInt8.ofNat (48 + n) = 48 := e
        have := congrArg UInt8.toNat e'
        rw [dig_toNat h] at this
        have h48 : (48 : UInt8).toNat = 48 := rfl
        omega
    · obtain ⟨i1, i2, i3, _, i5⟩ := ih (n / 10) (by omega)
      have hd : n % 10 < 10 := by omega
      have hH : (Lib.decDigits n).getD 0 0 = (Lib.decDigits (n / 10)).getD 0 0 := by
        rw [Lib.decDigits, dif_neg h]
        simp only [List.getD]
        rw [List.getElem?_append_left (by omega)]
      have hne : (Lib.decDigits n).getD 0 0 ≠ 48 := by rw [hH]; exact i5 (by omega)
      rw [Lib.decDigits, dif_neg h] at hne ⊢
      refine ⟨?_, ?_, by simp, fun _ => hne, fun _ => hne⟩
      · rw [numL_snoc, i1, dig_toNat hd]; omega
      · intro c hc
        rw [List.mem_append, List.mem_singleton] at hc
        rcases hc with hc | hc
        · exact i2 c hc
        · subst hc; rw [dig_toNat hd]; omega

theorem dec_numL : ∀ (m : Nat) (l : List UInt8), l.length = m → digL l → 1 ≤ m → (1 < m → l.getD 0 0 ≠ 48) → Lib.decDigits (numL l).toNat = l ∧ 0 ≤ numL l ∧ (l.getD 0 0 ≠ 48 → 1 ≤ numL l)
  | 0, l, hl, hd, h1, hn => absurd h1 (by omega)
  | m + 1, l, hl, hd, h1, hn => by
    have hne : l ≠ [] := by intro e; rw [e] at hl; simp at hl
    obtain ⟨a, c, rfl⟩ : ∃ a c, l = a ++ [c] := ⟨l.dropLast, l.getLast hne, (List.dropLast_concat_getLast hne).symm⟩
    have ha : a.length = m := by simpa using hl
    obtain ⟨c0, c1⟩ := hd c (by simp)
    have hc : UInt8.ofNat (48 + (c.toNat - 48)) = c := by
      rw [show 48 + (c.toNat - 48) = c.toNat by omega]
      exact UInt8.ofNat_toNat
    rw [numL_snoc]
    by_cases hm : m = 0
    · have ea : a = [] := List.eq_nil_of_length_eq_zero (by omega)
      subst ea
      have h0 : numL [] = 0 := rfl
      rw [h0]
      refine ⟨?_, by omega, fun h => ?_⟩
      · rw [Lib.decDigits_one (by omega), show ((0 : Int) * 10 + ((c.toNat : Int) - 48)).toNat = c.toNat - 48 by omega, hc]
        rfl
      · have hc48 : c ≠ 48 := h
        have : c.toNat ≠ 48 := fun e => hc48 (UInt8.toNat_inj.1 e)
        omega
    · have hg : (a ++ [c]).getD 0 0 = a.getD 0 0 := by
        simp only [List.getD]
        rw [List.getElem?_append_left (by omega)]
      rw [hg] at hn ⊢
      obtain ⟨j1, j2, j3⟩ := dec_numL m a ha (fun x hx => hd x (by simp [hx])) (by omega) (fun _ => hn (by omega))
      have hp := j3 (hn (by omega))
      refine ⟨?_, by omega, fun _ => by omega⟩
      rw [Lib.decDigits, dif_neg (by omega), show (numL a * 10 + ((c.toNat : Int) - 48)).toNat / 10 = (numL a).toNat by omega, j1, show (numL a * 10 + ((c.toNat : Int) - 48)).toNat % 10 = c.toNat - 48 by omega, hc]

theorem word_dec (x : ByteArray) (h : 0 ≤ wordNum x) : decS (wordNum x).toNat = x := by
  unfold wordNum at h ⊢
  split at h
  · rename_i hc
    rw [if_pos hc]
    obtain ⟨⟨z1, z2, z3⟩, hd⟩ := hc
    rw [allDigB_iff] at hd
    apply L_ext
    rw [numOf_L x x.size (Nat.le_refl _), ← L_size, List.take_length]
    show (decS (numL (L x)).toNat).data.toList = L x
    unfold decS
    refine (dec_numL x.size (L x) (L_size x) (fun c hc => ?_) z1 (fun h1 e => z3 ⟨h1, ?_⟩)).1
    · obtain ⟨i, hi, rfl⟩ := List.getElem_of_mem hc
      have := hd i (by rw [← L_size]; exact hi)
      rw [byteAt_L, List.getD, List.getElem?_eq_getElem hi, Option.getD_some] at this
      have := digB_bounds this
      omega
    · rw [byteAt_L, e]; rfl
  · omega

theorem dec_word (n : Nat) (h : n ≤ 999) : wordNum (decS n) = n := by
  obtain ⟨i1, i2, i3, i4, i5⟩ := numL_dec n
  have hL : L (decS n) = Lib.decDigits n := rfl
  have hz : (decS n).size = (Lib.decDigits n).length := by rw [← L_size, hL]
  have h4 : (Lib.decDigits n).length ≤ 3 := by
    by_cases a : n < 10
    · rw [Lib.decDigits_one a]; simp
    · by_cases b : n < 100
      · rw [Lib.decDigits_two a b]; simp
      · rw [Lib.decDigits, dif_neg a, Lib.decDigits_two (by omega) (by omega)]; simp
  unfold wordNum
  rw [if_pos]
  · rw [numOf_L _ _ (Nat.le_refl _), ← L_size, List.take_length, hL, i1]
  · refine ⟨⟨by omega, by omega, fun hh => ?_⟩, ?_⟩
    · have hn : 1 ≤ n := by
        rcases Nat.eq_zero_or_pos n with e | e
        · subst e
          rw [Lib.decDigits_one (by omega)] at hz
          have h1 : ([UInt8.ofNat (48 + 0)] : List UInt8).length = 1 := rfl
          omega
        · exact e
      have := hh.2
      rw [byteAt_L, hL] at this
      refine i5 hn (UInt8.toNat_inj.1 ?_)
      show _ = 48
      omega
    · rw [allDigB_iff]
      intro i hi
      have hi' : i < (Lib.decDigits n).length := by omega
      rw [byteAt_L, hL, List.getD, List.getElem?_eq_getElem hi', Option.getD_some]
      have := i2 _ (List.getElem_mem hi')
      simp [digB]
      omega

theorem dec_noB (n : Nat) : noB (L (decS n)) := by
  obtain ⟨_, i2, _⟩ := numL_dec n
  intro c hc e
  have := i2 c hc
  rw [e] at this
  have h32 : (32 : UInt8).toNat = 32 := rfl
  omega

theorem txt_noB {s : ByteArray} (h : txtB s = true) : noB (L s) := by
  unfold txtB allB at h
  rw [Bool.and_eq_true, List.all_eq_true] at h
  intro c hc e
  have hm : c ∈ s.data.toList.take s.size := by rw [show s.size = s.data.toList.length from (L_size s).symm, List.take_length]; exact hc
  have := h.2 c hm
  rw [e] at this
  exact absurd this (by decide)

theorem L_num (t k v : Nat) : L (numS t k v) = jl [decS t, decS k] ++ L (decS v) := by
  unfold numS
  have e : L ⟨#[32]⟩ = [32] := rfl
  simp only [L_append, jl, List.append_assoc, e, List.cons_append, List.nil_append]

theorem empty_L {s : ByteArray} (h : s.toList.isEmpty = true) : L s = [] := by
  have : s.toList = [] := List.isEmpty_iff.1 h
  rwa [show s.toList = L s from ByteArray.toList_eq s] at this

/-- Parsed and told again: the text itself. -/
theorem parse_print (s : ByteArray) {t k v : Int} {x : ByteArray} (h : wordsRow (cutSt s (s.size + 1)).1 = ⟨t, k, v, x, true⟩) : rowS t.toNat k.toNat v.toNat x = s := by
  obtain ⟨ws, y, hc, hs⟩ := cut_glue s
  rw [hc] at h
  match ws, hc, hs, h with
  | [a, b], hc, hs, h =>
    simp only [List.cons_append, List.nil_append, wordsRow, WRow.mk.injEq, beq_iff_eq] at h
    obtain ⟨rfl, rfl, rfl, rfl, hf⟩ := h
    obtain ⟨⟨t0, _⟩, ⟨k0, _⟩, ⟨v0, _⟩, _⟩ := fault_zero hf
    apply L_ext
    unfold rowS
    rw [if_pos (by rw [ByteArray.toList_eq]; rfl), L_num, word_dec a t0, word_dec b (by omega), word_dec y v0, hs]
  | [a, b, c], hc, hs, h =>
    simp only [List.cons_append, List.nil_append, wordsRow, WRow.mk.injEq, Bool.and_eq_true, beq_iff_eq] at h
    obtain ⟨rfl, rfl, rfl, rfl, hf, he⟩ := h
    obtain ⟨⟨t0, _⟩, ⟨k0, _⟩, ⟨v0, _⟩, _⟩ := fault_zero hf
    apply L_ext
    unfold rowS
    rw [if_neg (by simpa using he), L_append, L_append, L_num, word_dec a t0, word_dec b (by omega), word_dec c v0, hs]
    simp [jl, L]
  | [], hc, hs, h => simp [wordsRow] at h
  | [a], hc, hs, h => simp [wordsRow] at h
  | a :: b :: c :: d :: r, hc, hs, h => simp [wordsRow] at h

/-- Told and parsed again: the row itself. -/
theorem print_parse (t k v : Nat) (x : ByteArray) (hf : faultI t k v x = 0) : wordsRow (cutSt (rowS t k v x) ((rowS t k v x).size + 1)).1 = ⟨t, k, v, x, true⟩ := by
  obtain ⟨⟨_, t1⟩, ⟨_, k1⟩, ⟨_, v1⟩, _, hx⟩ := fault_zero hf
  have e1 := dec_word t (by omega)
  have e2 := dec_word k (by omega)
  have e3 := dec_word v (by omega)
  by_cases he : x.toList.isEmpty = true
  · have hx0 : x = ⟨#[]⟩ := L_ext (empty_L he)
    have hr : rowS t k v x = numS t k v := by unfold rowS; rw [if_pos he]
    rw [hr]
    have := cut_of_glue (numS t k v) (decS v) (dec_noB v) [decS t, decS k] [] [] (fun w hw => by simp at hw; rcases hw with rfl | rfl <;> exact dec_noB _) (by rw [L_num]; rfl) rfl
    rw [this]
    simp only [List.nil_append, List.cons_append, wordsRow, e1, e2, e3]
    rw [← hx0, hf]
    rfl
  · have hr : rowS t k v x = numS t k v ++ (⟨#[32]⟩ ++ x) := by unfold rowS; rw [if_neg he]
    rw [hr]
    have := cut_of_glue (numS t k v ++ (⟨#[32]⟩ ++ x)) x (txt_noB hx) [decS t, decS k, decS v] [] [] (fun w hw => by simp at hw; rcases hw with rfl | rfl | rfl <;> exact dec_noB _) (by rw [L_append, L_append, L_num]; simp [jl, L]) rfl
    rw [this]
    simp only [List.nil_append, List.cons_append, wordsRow, e1, e2, e3, hf]
    simp [he]

end Go.Proofs.YtfokolanjjiicaaDoor
