/-
  Plain facts on what is read of bytes: the program's way and the model's lead to the same record.
-/
import Derived.Test.YtcjkjenebnodbaaRPrc
import Derived.Deep.SlicePairs

namespace Go.Proofs.Ytcjkjenebnodbaa
set_option linter.unusedVariables false

/-- How many bytes the run at p tells. -/
def lenAt (zs : List Int) (p : Nat) : Nat := (zs.getD (p + 1) 0).toNat
/-- Where the j-th run begins. -/
def pos (zs : List Int) : Nat → Nat
  | 0 => 5
  | j + 1 => pos zs j + 2 + lenAt zs (pos zs j)
def rP (zs : List Int) (j : Nat) : Int := zs.getD (pos zs j) 0
def rZ (zs : List Int) (j : Nat) : List Int := (zs.drop (pos zs j + 2)).take (lenAt zs (pos zs j))
/-- Whether the j-th run is there. -/
def fit (zs : List Int) (j : Nat) : Prop := pos zs (j + 1) ≤ zs.length
instance (zs : List Int) (j : Nat) : Decidable (fit zs j) := by unfold fit; infer_instance
/-- How many runs are read, from the j-th on, of at most m. -/
def rdC (zs : List Int) : Nat → Nat → Nat
  | 0, j => j
  | m + 1, j => if fit zs j then rdC zs m (j + 1) else j
def cnt (zs : List Int) : Nat := rdC zs (zs.getD 4 0).toNat 0

theorem rdC_le (zs : List Int) : ∀ m j, j ≤ rdC zs m j ∧ rdC zs m j ≤ j + m
  | 0, j => ⟨Nat.le_refl _, Nat.le_refl _⟩
  | m + 1, j => by
    simp only [rdC]
    split
    · have := rdC_le zs m (j + 1); omega
    · omega
theorem rdC_fit (zs : List Int) : ∀ m j i, j ≤ i → i < rdC zs m j → fit zs i
  | 0, j, i, h1, h2 => by simp only [rdC] at h2; omega
  | m + 1, j, i, h1, h2 => by
    simp only [rdC] at h2
    split at h2
    · rename_i h
      by_cases e : i = j
      · rw [e]; exact h
      · exact rdC_fit zs m (j + 1) i (by omega) h2
    · omega
theorem rdC_all (zs : List Int) : ∀ m j, (∀ i, j ≤ i → i < j + m → fit zs i) → rdC zs m j = j + m
  | 0, j, _ => rfl
  | m + 1, j, h => by
    simp only [rdC]
    rw [if_pos (h j (by omega) (by omega)), rdC_all zs m (j + 1) (fun i h1 h2 => h i (by omega) (by omega))]
    omega
theorem cnt_fit (zs : List Int) (i : Nat) (h : i < cnt zs) : fit zs i := rdC_fit zs _ 0 i (Nat.zero_le _) h

theorem pos_mono (zs : List Int) (i j : Nat) (h : i ≤ j) : pos zs i + 2 * (j - i) ≤ pos zs j := by
  induction j with
  | zero => have : i = 0 := by omega
            subst this; omega
  | succ j ih =>
    by_cases e : i = j + 1
    · subst e; omega
    · have := ih (by omega)
      simp only [pos]
      omega
theorem rZ_len {zs : List Int} {j : Nat} (h : fit zs j) : (rZ zs j).length = lenAt zs (pos zs j) := by
  unfold fit at h
  simp only [pos] at h
  unfold rZ
  rw [List.length_take, List.length_drop]
  omega
theorem pos_took (zs : List Int) : ∀ j, (∀ i, i < j → fit zs i) → pos zs j = 5 + 2 * j + took (rZ zs) j
  | 0, _ => rfl
  | j + 1, h => by
    have ih := pos_took zs j (fun i hi => h i (by omega))
    have hl := rZ_len (h j (by omega))
    simp only [pos, took]
    rw [hl]
    omega

/-- Two lists that agree up to n. -/
def Agree (n : Nat) (xs ys : List Int) : Prop := ∀ i, i < n → ys[i]? = xs[i]?
theorem Agree.at' {n : Nat} {xs ys : List Int} (h : Agree n xs ys) (i : Nat) (hi : i < n) : ys.getD i 0 = xs.getD i 0 := by simp only [List.getD, h i hi]
theorem Agree.take (zs : List Int) (n : Nat) : Agree n zs (zs.take n) := fun i hi => by rw [List.getElem?_take, if_pos hi]
theorem Agree.symm {n : Nat} {xs ys : List Int} (h : Agree n xs ys) : Agree n ys xs := fun i hi => (h i hi).symm

theorem pos_agree {n : Nat} {xs ys : List Int} (h : Agree n xs ys) : ∀ j, (∀ i, i < j → pos xs (i + 1) ≤ n) → pos ys j = pos xs j
  | 0, _ => rfl
  | j + 1, hj => by
    have ih := pos_agree h j (fun i hi => hj i (by omega))
    have hl := hj j (by omega)
    simp only [pos] at hl ⊢
    rw [ih]
    unfold lenAt at hl ⊢
    rw [h.at' (pos xs j + 1) (by omega)]
theorem rP_agree {n : Nat} {xs ys : List Int} (h : Agree n xs ys) (j : Nat) (hj : ∀ i, i < j + 1 → pos xs (i + 1) ≤ n) : rP ys j = rP xs j := by
  have hp := pos_agree h j (fun i hi => hj i (by omega))
  have hl := hj j (by omega)
  simp only [pos] at hl
  unfold rP
  rw [hp, h.at' _ (by omega)]
theorem rZ_agree {n : Nat} {xs ys : List Int} (h : Agree n xs ys) (j : Nat) (hj : ∀ i, i < j + 1 → pos xs (i + 1) ≤ n) : rZ ys j = rZ xs j := by
  have hp := pos_agree h j (fun i hi => hj i (by omega))
  have hl := hj j (by omega)
  simp only [pos] at hl
  unfold rZ
  have hn : lenAt ys (pos xs j) = lenAt xs (pos xs j) := by unfold lenAt; rw [h.at' _ (by omega)]
  rw [hp, hn]
  apply List.ext_getElem?
  intro i
  rw [List.getElem?_take, List.getElem?_take]
  split
  · rw [List.getElem?_drop, List.getElem?_drop]
    exact h _ (by omega)
  · rfl

theorem rfFrom_congr {P P' : Nat → Int} {Z Z' : Nat → List Int} (n : Nat) (hP : ∀ i, i < n → P' i = P i) (hZ : ∀ i, i < n → Z' i = Z i) : ∀ m j, j + m ≤ n → rfFrom P' Z' m j = rfFrom P Z m j
  | 0, _, _ => rfl
  | m + 1, j, h => by
    have hl : lst P' Z' j = lst P Z j := by
      cases j with
      | zero => rfl
      | succ j => simp only [lst]; rw [hP j (by omega), hZ j (by omega)]
    simp only [rfFrom]
    rw [hP j (by omega), hZ j (by omega), hl, rfFrom_congr n hP hZ m (j + 1) (by omega)]
theorem recQ_congr {P P' : Nat → Int} {Z Z' : Nat → List Int} (k tx pg : Int) (n : Nat) (hP : ∀ i, i < n → P' i = P i) (hZ : ∀ i, i < n → Z' i = Z i) : recQ k tx pg n P' Z' = recQ k tx pg n P Z := by
  have hr : rfQ n P' Z' = rfQ n P Z := by
    unfold rfQ
    rw [rfFrom_congr n hP hZ n 0 (by omega)]
  have hd : deQ tx pg n P' Z' = deQ tx pg n P Z := by unfold deQ; rw [hr]
  have hi : imQ pg n P' Z' = imQ pg n P Z := by
    unfold imQ
    rw [hr]
    by_cases h : n = 1
    · rw [hZ 0 (by omega)]
    · rw [if_neg (fun e : n = 1 ∧ (Z' 0).length = 64 => h e.1), if_neg (fun e : n = 1 ∧ (Z 0).length = 64 => h e.1)]
  unfold recQ
  rw [hd, hi]
theorem runB_congr {P P' : Nat → Int} {Z Z' : Nat → List Int} : ∀ n, (∀ i, i < n → P' i = P i) → (∀ i, i < n → Z' i = Z i) → runB P' Z' n = runB P Z n
  | 0, _, _ => rfl
  | n + 1, hP, hZ => by
    simp only [runB]
    rw [runB_congr n (fun i hi => hP i (by omega)) (fun i hi => hZ i (by omega)), hP n (by omega), hZ n (by omega)]
theorem packB_congr {P P' : Nat → Int} {Z Z' : Nat → List Int} (k tx pg : Int) (n : Nat) (hP : ∀ i, i < n → P' i = P i) (hZ : ∀ i, i < n → Z' i = Z i) : packB k tx pg n P' Z' = packB k tx pg n P Z := by
  have h0 : recB0 k tx pg n n P' Z' = recB0 k tx pg n n P Z := by unfold recB0; rw [runB_congr n hP hZ]
  have h1 : recB1 k tx pg n P' Z' = recB1 k tx pg n P Z := by unfold recB1; rw [h0]
  unfold packB
  rw [h1]
theorem packB_0 (k tx pg : Int) (n : Nat) (P : Nat → Int) (Z : Nat → List Int) : (packB k tx pg n P Z).getD 0 0 = ((packB k tx pg n P Z).length : Int) := by
  have hl := packB_len k tx pg n P Z
  have h0 := recB0_len k tx pg n n P Z
  rw [hl]
  have : (packB k tx pg n P Z).getD 0 0 = ((recB0 k tx pg n n P Z).length : Int) + 2 := by simp [packB, recB1, recB0]
  rw [this, h0]
  omega
theorem packB_4 (k tx pg : Int) (n : Nat) (P : Nat → Int) (Z : Nat → List Int) : (packB k tx pg n P Z).getD 4 0 = (n : Int) := by simp [packB, recB1, recB0]

/-- What the bytes at the beginning of zs tell, read as a record: its fault, and its bytes. -/
def rdQ (zs : List Int) : Int := recQ (zs.getD 1 0) (zs.getD 2 0) (zs.getD 3 0) (cnt zs) (rP zs) (rZ zs)
def rdB (zs : List Int) : List Int := packB (zs.getD 1 0) (zs.getD 2 0) (zs.getD 3 0) (cnt zs) (rP zs) (rZ zs)
/-- Whether a record stands at the beginning of zs: as the program asks it. -/
def OkI (zs : List Int) : Prop := 5 ≤ zs.length ∧ rdQ zs = 0 ∧ rdB zs = zs.take (rdB zs).length
/-- How many bytes zs tells in front. -/
def len0 (zs : List Int) : Nat := (zs.getD 0 0).toNat
/-- .. as the model asks it. -/
def OkS (zs : List Int) : Prop := 7 ≤ zs.length ∧ 7 ≤ len0 zs ∧ len0 zs ≤ zs.length ∧ rdQ (zs.take (len0 zs)) = 0 ∧ rdB (zs.take (len0 zs)) = zs.take (len0 zs)
instance (zs : List Int) : Decidable (OkI zs) := by unfold OkI; infer_instance

/-- Where all runs stand within n bytes, of which these are the first, the same is read. -/
theorem read_agree {n : Nat} {xs ys : List Int} (h : Agree n xs ys) (h5 : 5 ≤ n) (hy : n ≤ ys.length) (hc : (xs.getD 4 0).toNat = cnt xs) (hp : pos xs (cnt xs) ≤ n) : cnt ys = cnt xs ∧ rdQ ys = rdQ xs ∧ rdB ys = rdB xs := by
  have hpo : ∀ i, i < cnt xs → pos xs (i + 1) ≤ n := fun i hi => Nat.le_trans (by have := pos_mono xs (i + 1) (cnt xs) (by omega); omega) hp
  have hcy : cnt ys = cnt xs := by
    have e : cnt ys = rdC ys (cnt xs) 0 := by
      show rdC ys (ys.getD 4 0).toNat 0 = _
      rw [h.at' 4 (by omega), hc]
    rw [e, rdC_all ys (cnt xs) 0 (fun i _ hi => ?_), Nat.zero_add]
    unfold fit
    rw [pos_agree h (i + 1) (fun i' hi' => hpo i' (by omega))]
    exact Nat.le_trans (hpo i (by omega)) hy
  have hP : ∀ i, i < cnt xs → rP ys i = rP xs i := fun i hi => rP_agree h i (fun i' hi' => hpo i' (by omega))
  have hZ : ∀ i, i < cnt xs → rZ ys i = rZ xs i := fun i hi => rZ_agree h i (fun i' hi' => hpo i' (by omega))
  refine ⟨hcy, ?_, ?_⟩
  · unfold rdQ
    rw [hcy, h.at' 1 (by omega), h.at' 2 (by omega), h.at' 3 (by omega)]
    exact recQ_congr _ _ _ _ hP hZ
  · unfold rdB
    rw [hcy, h.at' 1 (by omega), h.at' 2 (by omega), h.at' 3 (by omega)]
    exact packB_congr _ _ _ _ hP hZ

theorem ok_len {zs : List Int} (h : OkI zs) : (rdB zs).length = len0 zs ∧ 7 ≤ len0 zs ∧ len0 zs ≤ zs.length ∧ (zs.getD 4 0).toNat = cnt zs ∧ pos zs (cnt zs) + 2 = len0 zs := by
  obtain ⟨h5, hq, hb⟩ := h
  have hlen : (rdB zs).length = 7 + 2 * cnt zs + took (rZ zs) (cnt zs) := packB_len _ _ _ _ _ _
  have hle : (rdB zs).length ≤ zs.length := by
    have := congrArg List.length hb
    rw [List.length_take] at this
    omega
  have hat : ∀ i, i < (rdB zs).length → (rdB zs).getD i 0 = zs.getD i 0 := fun i hi => by
    have hA := (Agree.take zs (rdB zs).length).at' i hi
    rw [← hb] at hA
    exact hA
  have h0 : zs.getD 0 0 = ((rdB zs).length : Int) := by rw [← hat 0 (by omega)]; exact packB_0 _ _ _ _ _ _
  have h4 : zs.getD 4 0 = (cnt zs : Int) := by rw [← hat 4 (by omega)]; exact packB_4 _ _ _ _ _ _
  have hp := pos_took zs (cnt zs) (cnt_fit zs)
  have hl0 : len0 zs = (rdB zs).length := by unfold len0; rw [h0]; omega
  refine ⟨hl0.symm, by omega, by omega, by rw [h4]; omega, by omega⟩

theorem okI_okS {zs : List Int} (h : OkI zs) : OkS zs := by
  obtain ⟨h1, h2, h3, h4, h5⟩ := ok_len h
  obtain ⟨_, hq, hb⟩ := h
  obtain ⟨e1, e2, e3⟩ := read_agree (Agree.take zs (len0 zs)) (by omega) (by rw [List.length_take]; omega) h4 (by omega)
  exact ⟨by omega, h2, h3, by rw [e2]; exact hq, by rw [e3, hb, h1]⟩

theorem okS_okI {zs : List Int} (h : OkS zs) : OkI zs := by
  obtain ⟨h7, hn7, hn, hq, hb⟩ := h
  have hyl : (zs.take (len0 zs)).length = len0 zs := by rw [List.length_take]; omega
  have hlen : (rdB (zs.take (len0 zs))).length = 7 + 2 * cnt (zs.take (len0 zs)) + took (rZ (zs.take (len0 zs))) (cnt (zs.take (len0 zs))) := packB_len _ _ _ _ _ _
  have h4 : (zs.take (len0 zs)).getD 4 0 = (cnt (zs.take (len0 zs)) : Int) := by
    have := packB_4 ((zs.take (len0 zs)).getD 1 0) ((zs.take (len0 zs)).getD 2 0) ((zs.take (len0 zs)).getD 3 0) (cnt (zs.take (len0 zs))) (rP (zs.take (len0 zs))) (rZ (zs.take (len0 zs)))
    have hb' := hb
    unfold rdB at hb'
    rw [hb'] at this
    exact this
  have hp := pos_took (zs.take (len0 zs)) (cnt (zs.take (len0 zs))) (cnt_fit _)
  have hbl := congrArg List.length hb
  obtain ⟨e1, e2, e3⟩ := read_agree (Agree.take zs (len0 zs)).symm (by omega) hn (by rw [h4]; omega) (by omega)
  refine ⟨by omega, by rw [e2]; exact hq, ?_⟩
  rw [e3, hb, hyl]

theorem ok_iff (zs : List Int) : OkI zs ↔ OkS zs := ⟨okI_okS, okS_okI⟩

end Go.Proofs.Ytcjkjenebnodbaa

/-
  Runs that are appended one by one, each with bytes of its own, none too.
-/
namespace Go.Proofs.Ytcjkjenebnodbaa
open Go.RowKit
set_option linter.unusedVariables false

/-- Runs of one's own, or none. -/
def OwnS (lo hi : Nat) (w : World) (a : Option Addr) (n : Nat) (P : Nat → Int) (A : Nat → Option Addr) (C : Nat → Nat) (Z : Nat → List Int) (F : Nat → Nat) : Prop :=
  n = 0 ∨ ∃ b, a = some ⟨b, 0, none⟩ ∧ Own lo hi w b n P A C Z F

section
variable {lo hi : Nat} {w w' : World} {a : Option Addr} {n : Nat} {P P' : Nat → Int} {A : Nat → Option Addr} {C : Nat → Nat} {Z Z' : Nat → List Int} {F : Nat → Nat}
theorem OwnS.turned (h : OwnS lo hi w a n P A C Z F) {x y : Nat} (ht : Turned x y w w') (hn : hi ≤ x ∨ y ≤ lo) : OwnS lo hi w' a n P A C Z F := h.imp id (fun ⟨b, e, ho⟩ => ⟨b, e, ho.turned ht hn⟩)
theorem OwnS.below (h : OwnS lo hi w a n P A C Z F) (hb : Below w.heap.size w w') : OwnS lo hi w' a n P A C Z F := h.imp id (fun ⟨b, e, ho⟩ => ⟨b, e, ho.below hb⟩)
theorem OwnS.mono (h : OwnS lo hi w a n P A C Z F) {lo' hi' : Nat} (hl : lo' ≤ lo) (hh : hi ≤ hi') : OwnS lo' hi' w a n P A C Z F := h.imp id (fun ⟨b, e, ho⟩ => ⟨b, e, ho.mono hl hh⟩)
theorem OwnS.congr (h : OwnS lo hi w a n P A C Z F) (hP : ∀ i, i < n → P i = P' i) (hZ : ∀ i, i < n → Z i = Z' i) : OwnS lo hi w a n P' A C Z' F := h.imp id (fun ⟨b, e, ho⟩ => ⟨b, e, ho.congr hP hZ⟩)
theorem OwnS.none_ : OwnS lo hi w a 0 P A C Z F := .inl rfl
end

def dcells (P : Nat → Int) (V : Nat → Value) : Nat → List Value
  | 0 => []
  | k + 1 => dcells P V k ++ [.int .i64 (P k), V k]
theorem dcells_length (P : Nat → Int) (V : Nat → Value) : ∀ k, (dcells P V k).length = k * 2
  | 0 => rfl
  | k + 1 => by simp [dcells, dcells_length P V k]; omega
theorem dcells_congr {P P' : Nat → Int} {V V' : Nat → Value} : ∀ k, (∀ i, i < k → P i = P' i ∧ V i = V' i) → dcells P V k = dcells P' V' k
  | 0, _ => rfl
  | k + 1, h => by
    obtain ⟨h1, h2⟩ := h k (by omega)
    simp only [dcells]
    rw [dcells_congr k (fun i hi => h i (by omega)), h1, h2]
theorem dcells_at (P : Nat → Int) (V : Nat → Value) : ∀ k i, i < k → (dcells P V k)[i * 2]? = some (.int .i64 (P i)) ∧ (dcells P V k)[i * 2 + 1]? = some (V i)
  | 0, i, h => absurd h (Nat.not_lt_zero _)
  | k + 1, i, h => by
    have hl := dcells_length P V k
    simp only [dcells]
    by_cases e : i = k
    · subst e
      rw [List.getElem?_append_right (by omega), List.getElem?_append_right (by omega), hl, Nat.sub_self, show i * 2 + 1 - i * 2 = 1 by omega]
      exact ⟨rfl, rfl⟩
    · rw [List.getElem?_append_left (by omega), List.getElem?_append_left (by omega)]
      exact dcells_at P V k i (by omega)
theorem dcells_set (P : Nat → Int) (V : Nat → Value) (k : Nat) (u : Value) : (dcells P V (k + 1)).set (k * 2 + 1) u = dcells P (fun i => if i = k then u else V i) (k + 1) := by
  simp only [dcells]
  rw [List.set_append_right _ _ (by rw [dcells_length]; omega), dcells_length, show k * 2 + 1 - k * 2 = 1 by omega]
  simp only [if_true, List.set_cons_succ, List.set_cons_zero]
  rw [dcells_congr (P' := P) (V' := fun i => if i = k then u else V i) k (fun i hi => ⟨rfl, by rw [if_neg (by omega)]⟩)]

/-- v holds k runs in memory from n₀ on; of the i-th the place P i and the bytes Z i, which V i holds, in memory from B i on. -/
structure Dlt (n₀ : Nat) (W : World) (v : Value) (k : Nat) (P : Nat → Int) (V : Nat → Value) (Z : Nat → List Int) (B : Nat → Nat) : Prop where
  row : W.ownsRow n₀ 129 2 v k (dcells P V k)
  by' : ∀ i, i < k → W.ownsRow (B i) 5 1 (V i) (Z i).length ((Z i).map (Value.int .u8))
  lo : ∀ i, i < k → n₀ ≤ B i
  sep : ∀ i j, i < j → j < k → ∀ g, (V i).ownBlock = some g → g < B j
  hi : ∀ i, i < k → B i ≤ W.heap.size

theorem rows_apart {W : World} {b1 b2 n1 n2 : Nat} {v1 v2 : Value} {x1 x2 : List Value} (h1 : W.ownsRow b1 129 2 v1 n1 x1) (h2 : W.ownsRow b2 5 1 v2 n2 x2) : v1.ownBlock = none ∨ v1.ownBlock ≠ v2.ownBlock := by
  rcases h1.2 with ⟨rfl, _⟩ | ⟨g, cap, cur, rfl, _, hg, _⟩
  · exact .inl rfl
  · refine .inr fun e => ?_
    rcases h2.2 with ⟨rfl, _⟩ | ⟨g', cap', cur', rfl, _, hg', _⟩
    · cases e
    · simp only [Value.ownBlock, Option.some.injEq] at e
      rw [e, hg'] at hg
      have h : (5 : TypeId) = 129 := by injection hg with hg; injection hg
      exact absurd h (by decide)

section
variable {n₀ : Nat} {W W' : World} {v : Value} {k : Nat} {P : Nat → Int} {V : Nat → Value} {Z : Nat → List Int} {B : Nat → Nat}

theorem ownsRow_below {base n : Nat} {e : TypeId} {size : Nat} {u : Value} {xs : List Value} (h : W.ownsRow base e size u n xs) (hb : Below W.heap.size W W') : W'.ownsRow base e size u n xs := by
  refine ⟨h.1, ?_⟩
  rcases h.2 with h0 | ⟨g, cap, cur, e, h1, hgb, hh⟩
  · exact .inl h0
  · exact .inr ⟨g, cap, cur, e, h1, (hb.block g (Array.getElem?_eq_some_iff.1 hgb).1).trans hgb, hh⟩

theorem Dlt.below (h : Dlt n₀ W v k P V Z B) (hb : Below W.heap.size W W') : Dlt n₀ W' v k P V Z B := ⟨ownsRow_below h.row hb, fun i hi => ownsRow_below (h.by' i hi) hb, h.lo, h.sep, fun i hi => Nat.le_trans (h.hi i hi) hb.size⟩

theorem Dlt.congr (h : Dlt n₀ W v k P V Z B) {P' : Nat → Int} {Z' : Nat → List Int} (he : ∀ i, i < k → P i = P' i ∧ Z i = Z' i) : Dlt n₀ W v k P' V Z' B :=
  ⟨by rw [← dcells_congr k (fun i hi => ⟨(he i hi).1, rfl⟩)]; exact h.row, fun i hi => by rw [← (he i hi).2]; exact h.by' i hi, h.lo, h.sep, h.hi⟩

/-- A run comes behind. -/
theorem Dlt.add (h : Dlt n₀ W v k P V Z B) {v' u : Value} {b : Nat} (hu : W.ownsRow b 5 1 u (Z k).length ((Z k).map (Value.int .u8))) (hb : ∀ i, i < k → ∀ g, (V i).ownBlock = some g → g < b) (hn : n₀ ≤ b) (hbW : b ≤ W.heap.size)
    (hrow : W'.ownsRow n₀ 129 2 v' (k + 1) (dcells P V k ++ [.int .i64 (P k), u])) (hg : W.grownBy W' v.ownBlock) :
    Dlt n₀ W' v' (k + 1) P (fun i => if i = k then u else V i) Z (fun i => if i = k then b else B i) := by
  have keep : ∀ {bb n : Nat} {y : Value} {xs : List Value}, W.ownsRow bb 5 1 y n xs → W'.ownsRow bb 5 1 y n xs := fun {bb n y xs} hy => by
    refine hy.kept hg ?_
    rcases rows_apart h.row hy with h1 | h1
    · by_cases h2 : y.ownBlock = none
      · exact .inl h2
      · exact .inr (fun e2 => h2 (e2.trans h1))
    · exact .inr (fun e2 => h1 e2.symm)
  refine ⟨?_, fun i hi => ?_, fun i hi => ?_, fun i j hij hj g hgb => ?_, fun i hi => by
    by_cases e : i = k
    · simp only [if_pos e]; exact Nat.le_trans hbW hg.size
    · simp only [if_neg e]; exact Nat.le_trans (h.hi i (by omega)) hg.size⟩
  · simp only [dcells, if_true]
    rw [← dcells_congr k (P := P) (V := V) (fun i hi => ⟨rfl, by simp only [if_neg (show ¬ i = k by omega)]⟩)]
    exact hrow
  · by_cases e : i = k
    · subst e
      simp only [if_true]
      exact keep hu
    · simp only [if_neg e]
      exact keep (h.by' i (by omega))
  · by_cases e : i = k
    · simp only [if_pos e]; exact hn
    · simp only [if_neg e]; exact h.lo i (by omega)
  · have hik : ¬ i = k := by omega
    simp only [if_neg hik] at hgb
    by_cases e : j = k
    · simp only [if_pos e]
      exact hb i (by omega) g hgb
    · simp only [if_neg e]; exact h.sep i j hij (by omega) g hgb

theorem Dlt.nil (n₀ : Nat) (W : World) (P : Nat → Int) (V : Nat → Value) (Z : Nat → List Int) (B : Nat → Nat) : Dlt n₀ W (.slice none 0 0) 0 P V Z B :=
  ⟨World.ownsRow_nil _ _ _ _, fun i hi => absurd hi (Nat.not_lt_zero _), fun i hi => absurd hi (Nat.not_lt_zero _), fun i j _ hi => absurd hi (Nat.not_lt_zero _), fun i hi => absurd hi (Nat.not_lt_zero _)⟩

/-- Runs that were appended read as what they are. -/
theorem Dlt.reads (h : Dlt n₀ W v k P V Z B) : ∃ a c A C, v = .slice a k c ∧ RunsRead W a k P A C Z := by
  have each : ∀ i, i < k → ∃ q : Option Addr × Nat, V i = .slice q.1 (Z i).length q.2 ∧ Reads W q.1 (Z i) := fun i hi => by
    rcases (h.by' i hi).2 with ⟨e, h0⟩ | ⟨g, cap, cur, e, _⟩
    · exact ⟨(none, 0), by rw [e, h0], .inl (List.eq_nil_of_length_eq_zero h0)⟩
    · refine ⟨(some ⟨g, 0, none⟩, cap), e, ?_⟩
      have hb := h.by' i hi
      rw [e] at hb
      exact (bytesIn_owns hb).reads
  obtain ⟨q, hq⟩ := Go.Deep.choose_lt each
  rcases h.row.2 with ⟨rfl, rfl⟩ | ⟨g, cap, cur, rfl, hn, hg, _⟩
  · exact ⟨none, 0, fun _ => none, fun _ => 0, rfl, .inl rfl⟩
  · have hr := h.row
    refine ⟨some ⟨g, 0, none⟩, cap, fun i => (q i).1, fun i => (q i).2, rfl, .inr ⟨g, 0, rfl, fun i hi => ⟨?_, ?_, (hq i hi).2⟩⟩⟩
    · rw [Nat.zero_add, hr.cellAt (i * 2) (by omega)]; exact (dcells_at P V k i hi).1
    · rw [Nat.zero_add, hr.cellAt (i * 2 + 1) (by omega), (dcells_at P V k i hi).2, (hq i hi).1]

/-- Runs that grew are runs of one's own. -/
theorem Dlt.own (h : Dlt n₀ W v k P V Z B) (hz : ∀ i, i < k → Z i ≠ []) : ∃ a c A C F, v = .slice a k c ∧ OwnS n₀ W.heap.size W a k P A C Z F := by
  have each : ∀ i, i < k → ∃ q : Nat × Nat, V i = .slice (some ⟨q.1, 0, none⟩) (Z i).length q.2 := fun i hi => by
    rcases (h.by' i hi).2 with ⟨_, h0⟩ | ⟨g, cap, cur, e, _⟩
    · exact absurd (List.eq_nil_of_length_eq_zero h0) (hz i hi)
    · exact ⟨(g, cap), e⟩
  obtain ⟨q, hq⟩ := Go.Deep.choose_lt each
  rcases h.row.2 with ⟨rfl, rfl⟩ | ⟨g, cap, cur, rfl, hn, hg, _⟩
  · exact ⟨none, 0, fun _ => none, fun _ => 0, fun _ => 0, rfl, .inl rfl⟩
  · refine ⟨some ⟨g, 0, none⟩, cap, fun i => some ⟨(q i).1, 0, none⟩, fun i => (q i).2, fun i => (q i).1, rfl, ?_⟩
    by_cases h0 : k = 0
    · exact .inl h0
    have hr := h.row
    have hblk : ∀ i, i < k → B i ≤ (q i).1 ∧ (q i).1 < W.heap.size := fun i hi => (h.by' i hi).lt _ (by rw [hq i hi]; rfl)
    have hsep : ∀ i j, i < j → j < k → (q i).1 < (q j).1 := fun i j hij hj => by
      have h1 := h.sep i j hij hj (q i).1 (by rw [hq i (by omega)]; rfl)
      have h2 := hblk j hj
      omega
    refine .inr ⟨g, rfl, hn, (Array.getElem?_eq_some_iff.1 hg).1, fun i hi => ?_, fun i hi => ?_, fun i hi => hr.frozenAt _, fun i hi => hr.frozenAt _, fun i hi => ?_, fun i hi _ => ⟨?_, (hblk i hi).2, fun e => ?_⟩, fun i j hi hj hne _ _ => ?_⟩
    · rw [hr.cellAt (i * 2) (by omega)]; exact (dcells_at P V k i hi).1
    · rw [hr.cellAt (i * 2 + 1) (by omega), (dcells_at P V k i hi).2, hq i hi]
    · have hb := h.by' i hi
      rw [hq i hi] at hb
      refine .inr ⟨(q i).1, 0, rfl, Nat.le_refl _, Nat.lt_succ_self _, fun j hj => ?_, fun j hj => ?_⟩
      · rw [Nat.zero_add, hb.cellAt j (by omega)]
        simp [List.getElem?_eq_getElem hj, List.getD]
      · exact hb.frozenAt _
    · have := h.lo i hi; have := hblk i hi; omega
    · rcases rows_apart h.row (h.by' i hi) with h1 | h1
      · cases h1
      · exact h1 (by rw [hq i hi]; simp only [Value.ownBlock]; rw [e])
    · rcases Nat.lt_or_gt_of_ne hne with h1 | h1
      · have := hsep i j h1 hj; omega
      · have := hsep j i h1 hi; omega
end

end Go.Proofs.Ytcjkjenebnodbaa
