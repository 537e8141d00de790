/-
  Both ways to ask whether two lock one key are one (plain facts).
-/
import Derived.Test.YtpjlpnaamkbicaaGreatDoorCKTxl

namespace Go.Proofs.YtpjlpnaamkbicaaGreatDoor
open Go.RowKit Go.Maps
set_option linter.unusedVariables false

def flK (xs : List TxV) : List K2 := xs.flatMap fun x => x.l
theorem hasK_iff {l : List K2} {k : K2} : hasK l k = true ↔ k ∈ l := by
  unfold hasK
  rw [List.any_eq_true]
  constructor
  · rintro ⟨e, he, h⟩
    rw [← kEq_iff.1 h]; exact he
  · intro h
    exact ⟨k, h, kEq_iff.2 rfl⟩
theorem hasK_false {l : List K2} {k : K2} : hasK l k = false ↔ k ∉ l := by
  rw [← hasK_iff]
  simp
theorem fold_flat : ∀ (xs : List TxV) (L : List K2), xs.foldl (fun L x => x.l.foldl withL L) L = (flK xs).foldl withL L
  | [], L => rfl
  | x :: xs, L => by
    have h := fold_flat xs (x.l.foldl withL L)
    unfold flK at h ⊢
    rw [List.foldl_cons, h, List.flatMap_cons, List.foldl_append]
theorem cnt_flat : ∀ (xs : List TxV), cntL xs = (flK xs).length
  | [] => rfl
  | x :: xs => by
    have h := cnt_flat xs
    unfold cntL flK at h ⊢
    rw [List.flatMap_cons, List.length_append, List.map_cons, List.sum_cons, h]
theorem fold_nodup : ∀ (ls L : List K2), (ls.foldl withL L).length = L.length + ls.length ↔ (ls.Nodup ∧ ∀ k ∈ ls, k ∉ L)
  | [], L => by simp
  | k :: ks, L => by
    have hle := fold_len ks L
    rw [List.foldl_cons]
    by_cases h : hasK L k = true
    · have hw : withL L k = L := by unfold withL; rw [if_pos h]
      rw [hw]
      have hk : k ∈ L := hasK_iff.1 h
      constructor
      · intro he
        simp only [List.length_cons] at he
        omega
      · rintro ⟨_, h2⟩
        exact absurd hk (h2 k (by simp))
    · have hw : withL L k = L ++ [k] := by unfold withL; rw [if_neg h]
      have hk : k ∉ L := fun hm => h (hasK_iff.2 hm)
      have ih := fold_nodup ks (L ++ [k])
      rw [hw]
      have e1 : ((ks.foldl withL (L ++ [k])).length = L.length + (k :: ks).length) ↔ ((ks.foldl withL (L ++ [k])).length = (L ++ [k]).length + ks.length) := by
        simp only [List.length_cons, List.length_append, List.length_nil]
        omega
      rw [e1, ih, List.nodup_cons]
      constructor
      · rintro ⟨h1, h2⟩
        refine ⟨⟨fun hm => ?_, h1⟩, fun y hy => ?_⟩
        · exact h2 k hm (by simp)
        · rcases List.mem_cons.1 hy with rfl | hy
          · exact hk
          · exact fun hm => h2 y hy (by simp [hm])
      · rintro ⟨⟨h1, h2⟩, h3⟩
        refine ⟨h2, fun y hy hm => ?_⟩
        rcases List.mem_append.1 hm with hm | hm
        · exact h3 y (by simp [hy]) hm
        · rw [List.mem_singleton.1 hm] at hy
          exact h1 hy
theorem lkr_cons_yes {x : TxV} {xs : List TxV} {k : K2} (h : k ∈ x.l) : lkr (x :: xs) k = x.id := by unfold lkr; rw [if_pos (hasK_iff.2 h)]
theorem lkr_cons_no {x : TxV} {xs : List TxV} {k : K2} (h : k ∉ x.l) : lkr (x :: xs) k = lkr xs k := by
  rw [lkr, if_neg (fun hh => h (hasK_iff.1 hh))]
theorem mem_flK {xs : List TxV} {k : K2} : k ∈ flK xs ↔ ∃ x ∈ xs, k ∈ x.l := by unfold flK; rw [List.mem_flatMap]
theorem flK_cons (x : TxV) (xs : List TxV) : flK (x :: xs) = x.l ++ flK xs := by unfold flK; rw [List.flatMap_cons]
theorem nodup_lkr : ∀ {xs : List TxV}, (flK xs).Nodup → ∀ x ∈ xs, ∀ k ∈ x.l, lkr xs k = x.id
  | [], _, x, hx, _, _ => by simp at hx
  | y :: ys, h, x, hx, k, hk => by
    rw [flK_cons, List.nodup_append] at h
    rcases List.mem_cons.1 hx with rfl | hx
    · exact lkr_cons_yes hk
    · have hn : k ∉ y.l := fun hm => h.2.2 k hm k (mem_flK.2 ⟨x, hx, hk⟩) rfl
      rw [lkr_cons_no hn]
      exact nodup_lkr h.2.1 x hx k hk
theorem lkr_nodup : ∀ {xs : List TxV}, (∀ x ∈ xs, x.l.Nodup) → xs.Pairwise (fun a b => a.id ≠ b.id) → (∀ x ∈ xs, ∀ k ∈ x.l, lkr xs k = x.id) → (flK xs).Nodup
  | [], _, _, _ => by simp [flK]
  | y :: ys, h1, h2, h3 => by
    rw [List.pairwise_cons] at h2
    have hd : ∀ x ∈ ys, ∀ k ∈ x.l, k ∉ y.l := fun x hx k hk hm => by
      have e1 := h3 x (by simp [hx]) k hk
      rw [lkr_cons_yes hm] at e1
      exact h2.1 x hx e1
    rw [flK_cons, List.nodup_append]
    refine ⟨h1 y (by simp), lkr_nodup (fun x hx => h1 x (by simp [hx])) h2.2 (fun x hx k hk => ?_), fun a ha b hb e => ?_⟩
    · have e1 := h3 x (by simp [hx]) k hk
      rw [lkr_cons_no (hd x hx k hk)] at e1
      exact e1
    · subst e
      obtain ⟨x, hx, hk⟩ := mem_flK.1 hb
      exact hd x hx a hk ha
theorem fst_zero {α : Type} {f : α → Int} : ∀ {xs : List α}, fstQ f xs = 0 → ∀ y ∈ xs, f y = 0
  | [], _, y, hy => by simp at hy
  | c :: cs, h, y, hy => by
    unfold fstQ at h
    split at h
    · rename_i h0
      rcases List.mem_cons.1 hy with rfl | hy
      · exact h0
      · exact fst_zero h y hy
    · rename_i h0
      exact absurd h h0
theorem rng_zero {f : Nat → Int} {n : Nat} (h : fstQ f (List.range n) = 0) : ∀ i, i < n → f i = 0 := fun i hi => fst_zero h i (List.mem_range.2 hi)
theorem lks_nodup {ls : List K2} (h : lksQ ls = 0) : ls.Nodup := by
  have h1 := rng_zero h
  rw [List.Nodup, List.pairwise_iff_getElem]
  intro i j hi hj hij
  have h2 := h1 j hj
  unfold lkQ at h2
  have hg : ls.getD j ⟨0, 0⟩ = ls[j] := by rw [List.getD_eq_getElem?_getD, List.getElem?_eq_getElem hj]; rfl
  rw [hg] at h2
  split at h2
  · split at h2
    · cases h2
    · rename_i h3
      intro e
      apply h3
      rw [hasK_iff, ← e]
      rw [List.mem_take_iff_getElem]
      exact ⟨i, by omega, rfl⟩
  · cases h2
theorem aln_nodup {x : TxV} (h : alnQ x = 0) : x.l.Nodup := by
  unfold alnQ at h
  split at h
  · unfold mlQ at h
    split at h
    · cases h
    · unfold orI at h
      split at h
      · exact lks_nodup h
      · rename_i h1; exact absurd h h1
  · rename_i h1; exact absurd h h1
theorem txs_at {xs : List TxV} {i : Nat} (hi : i < xs.length) (h : txAt xs i = 0) : (i ≠ 0 → prvT xs i < xs[i].id) ∧ alnQ xs[i] = 0 := by
  unfold txAt at h
  have hg : xs.getD i ⟨0, [], [], []⟩ = xs[i] := by rw [List.getD_eq_getElem?_getD, List.getElem?_eq_getElem hi]; rfl
  simp only [hg] at h
  split at h
  · split at h
    · cases h
    · rename_i h1
      refine ⟨fun h0 => ?_, h⟩
      have : ¬ xs[i].id ≤ prvT xs i := fun hh => h1 ⟨h0, hh⟩
      omega
  · cases h
theorem txs_rise {xs : List TxV} (h : ∀ i, i < xs.length → txAt xs i = 0) : ∀ (j : Nat) (hj : j < xs.length) (i : Nat) (hij : i < j), (xs[i]'(by omega)).id < xs[j].id
  | 0, _, i, hij => by omega
  | j + 1, hj, i, hij => by
    have h1 := (txs_at hj (h _ hj)).1 (by omega)
    unfold prvT at h1
    rw [if_neg (by omega), Nat.add_sub_cancel, List.getD_eq_getElem?_getD, List.getElem?_eq_getElem (by omega : j < xs.length)] at h1
    simp only [Option.getD_some] at h1
    by_cases e : i = j
    · subst e; exact h1
    · have := txs_rise h j (by omega) i (by omega)
      omega
theorem txs_eq (xs : List TxV) : txsI xs = txsQ xs := by
  unfold txsI txsQ
  split
  · rfl
  · split
    · rename_i hf
      have h0 := rng_zero hf
      have hnd : ∀ x ∈ xs, x.l.Nodup := fun x hx => by
        obtain ⟨i, hi, rfl⟩ := List.mem_iff_getElem.1 hx
        exact aln_nodup (txs_at hi (h0 i hi)).2
      have hpw : xs.Pairwise (fun a b => a.id ≠ b.id) := by
        rw [List.pairwise_iff_getElem]
        intro i j hi hj hij
        have := txs_rise h0 j hj i hij
        omega
      have hiff : (flK xs).Nodup ↔ apB xs = true := by
        constructor
        · intro hn
          unfold apB
          rw [List.all_eq_true]
          intro x hx
          rw [List.all_eq_true]
          intro k hk
          rw [nodup_lkr hn x hx k hk]
          simp
        · intro ha
          refine lkr_nodup hnd hpw (fun x hx k hk => ?_)
          unfold apB at ha
          have h1 := List.all_eq_true.1 ha x hx
          have h2 := List.all_eq_true.1 h1 k hk
          simpa using h2
      have hle := fold_len (flK xs) []
      have hfn := fold_nodup (flK xs) []
      simp only [List.length_nil, Nat.zero_add] at hle hfn
      unfold tgQ
      have hk : allK xs = (flK xs).foldl withL [] := fold_flat xs []
      rw [hk, cnt_flat]
      by_cases ha : apB xs = true
      · have hn := hiff.2 ha
        have he := hfn.2 ⟨hn, by simp⟩
        rw [if_neg (by omega), if_pos ha]
      · have hn : ¬ (flK xs).Nodup := fun hh => ha (hiff.1 hh)
        have he : ((flK xs).foldl withL []).length ≠ (flK xs).length := fun hh => hn (hfn.1 hh).1
        rw [if_pos (by omega), if_neg ha]
    · rfl

end Go.Proofs.YtpjlpnaamkbicaaGreatDoor
