/-
  Runs of one's own memory: toRunS, eqRunS.
-/
import Derived.Test.YtnfolgoloaeanaaGreatUApn
import Derived.Deep.Cut
import Derived.Deep.MidRow
import Derived.Laws.CopyOwn

namespace Go.Proofs.YtnfolgoloaeanaaGreat
open Go.RowKit
set_option linter.unusedVariables false

/-- Block b, one of lo to below hi, holds n runs: of the i-th the place P i and the bytes Z i, which stand at A i in block F i; no two share any. -/
structure Own (lo hi : Nat) (w : World) (b n : Nat) (P : Nat → Int) (A : Nat → Option Addr) (C : Nat → Nat) (Z : Nat → List Int) (F : Nat → Nat) : Prop where
  l0 : lo ≤ b
  h0 : b < hi
  c0 : ∀ i, i < n → w.cell? ⟨b, i * 2, none⟩ = some (.int .i64 (P i))
  c1 : ∀ i, i < n → w.cell? ⟨b, i * 2 + 1, none⟩ = some (.slice (A i) (Z i).length (C i))
  f0 : ∀ i, i < n → w.frozen? ⟨b, i * 2, none⟩ = false
  f1 : ∀ i, i < n → w.frozen? ⟨b, i * 2 + 1, none⟩ = false
  by' : ∀ i, i < n → BytesIn (F i) (F i + 1) w (A i) (Z i)
  fr : ∀ i, i < n → Z i ≠ [] → lo ≤ F i ∧ F i < hi ∧ F i ≠ b
  ne : ∀ i j, i < n → j < n → i ≠ j → Z i ≠ [] → Z j ≠ [] → F i ≠ F j

section
variable {lo hi b n : Nat} {w w' : World} {P : Nat → Int} {A : Nat → Option Addr} {C : Nat → Nat} {Z : Nat → List Int} {F : Nat → Nat}

theorem Own.reads (h : Own lo hi w b n P A C Z F) : RunsRead w (some ⟨b, 0, none⟩) n P A C Z :=
  .inr ⟨b, 0, rfl, fun i hi => ⟨by rw [Nat.zero_add]; exact h.c0 i hi, by rw [Nat.zero_add]; exact h.c1 i hi, (h.by' i hi).reads⟩⟩

theorem BytesIn.turnedE {l u : Nat} {a : Option Addr} {zs : List Int} (h : BytesIn l u w a zs) {x y : Nat} (ht : Turned x y w w') (hn : zs ≠ [] → u ≤ x ∨ y ≤ l) : BytesIn l u w' a zs := by
  by_cases e : zs = []
  · exact .inl e
  · exact h.turned ht (hn e)

theorem Own.turned (h : Own lo hi w b n P A C Z F) {x y : Nat} (ht : Turned x y w w') (hn : hi ≤ x ∨ y ≤ lo) : Own lo hi w' b n P A C Z F := by
  have h1 := h.l0
  have h2 := h.h0
  exact ⟨h.l0, h.h0, fun i hi => ht.cell (h.c0 i hi) (by simp only; omega), fun i hi => ht.cell (h.c1 i hi) (by simp only; omega),
    fun i hi => (ht.frozen (h.c0 i hi) (by simp only; omega)).trans (h.f0 i hi), fun i hi => (ht.frozen (h.c1 i hi) (by simp only; omega)).trans (h.f1 i hi),
    fun i hi => (h.by' i hi).turnedE ht (fun e => by have := h.fr i hi e; omega), h.fr, h.ne⟩

theorem Own.below (h : Own lo hi w b n P A C Z F) (hb : Below w.heap.size w w') : Own lo hi w' b n P A C Z F :=
  h.turned (x := hi) (y := hi) (Turned.ofBelow hb) (.inl (Nat.le_refl _))

theorem Own.mono (h : Own lo hi w b n P A C Z F) {lo' hi' : Nat} (hl : lo' ≤ lo) (hh : hi ≤ hi') : Own lo' hi' w b n P A C Z F :=
  ⟨Nat.le_trans hl h.l0, Nat.lt_of_lt_of_le h.h0 hh, h.c0, h.c1, h.f0, h.f1, h.by', fun i hi e => by have := h.fr i hi e; omega, h.ne⟩
end

/-- Block g holds n runs, of which k are there (their bytes in blocks above g), the others are not yet. -/
structure Part (w : World) (g n k : Nat) (P : Nat → Int) (Z : Nat → List Int) (A : Nat → Option Addr) (F : Nat → Nat) : Prop where
  c0 : ∀ i, i < k → w.cell? ⟨g, i * 2, none⟩ = some (.int .i64 (P i))
  c1 : ∀ i, i < k → w.cell? ⟨g, i * 2 + 1, none⟩ = some (.slice (A i) (Z i).length (Z i).length)
  r0 : ∀ i, k ≤ i → i < n → w.cell? ⟨g, i * 2, none⟩ = some (.int .i64 0)
  r1 : ∀ i, k ≤ i → i < n → w.cell? ⟨g, i * 2 + 1, none⟩ = some (.slice none 0 0)
  f0 : ∀ i, i < n → w.frozen? ⟨g, i * 2, none⟩ = false
  f1 : ∀ i, i < n → w.frozen? ⟨g, i * 2 + 1, none⟩ = false
  by' : ∀ i, i < k → BytesIn (F i) (F i + 1) w (A i) (Z i)
  fr : ∀ i, i < k → g < F i ∧ F i ≤ w.heap.size
  ne : ∀ i j, i < j → j < k → F i < F j

theorem Part.own {w : World} {g n : Nat} {P : Nat → Int} {Z : Nat → List Int} {A : Nat → Option Addr} {F : Nat → Nat} (h : Part w g n n P Z A F) (hg : g < w.heap.size) : Own g w.heap.size w g n P A (fun i => (Z i).length) Z F :=
  ⟨Nat.le_refl _, hg, h.c0, h.c1, h.f0, h.f1, h.by', fun i hi e => by
    have h1 := h.fr i hi
    rcases h.by' i hi with h2 | ⟨b, o, _, h3, h4, hc, _⟩
    · exact absurd h2 e
    · have h5 : 0 < (Z i).length := List.length_pos_iff.2 e
      have h6 : b < w.heap.size := World.block_lt_of_cell? w _ (hc 0 h5)
      omega, fun i j hi hj hne _ _ => by
    rcases Nat.lt_or_gt_of_ne hne with h1 | h1
    · have := h.ne i j h1 hj; omega
    · have := h.ne j i h1 hi; omega⟩

theorem Part.step {w w' : World} {g n k : Nat} {P : Nat → Int} {Z : Nat → List Int} {A : Nat → Option Addr} {F : Nat → Nat} (h : Part w g n k P Z A F) (hk : k < n) (hg : g < w.heap.size) (hb : Below w.heap.size w w') (hs : w.heap.size + 3 ≤ w'.heap.size)
    (hy : BytesIn (w.heap.size + 3) (w.heap.size + 4) w' (some ⟨w.heap.size + 3, 0, none⟩) (Z k)) :
    Part ((w'.setCell ⟨g, k * 2, none⟩ (.int .i64 (P k))).setCell ⟨g, k * 2 + 1, none⟩ (.slice (some ⟨w.heap.size + 3, 0, none⟩) (Z k).length (Z k).length)) g n (k + 1) P Z
      (fun i => if i = k then some ⟨w.heap.size + 3, 0, none⟩ else A i) (fun i => if i = k then w.heap.size + 3 else F i) := by
  have cc : ∀ o v, w.cell? ⟨g, o, none⟩ = some v → w'.cell? ⟨g, o, none⟩ = some v := fun o v hv => (hb.cell (p := ⟨g, o, none⟩) hg).trans hv
  have ff : ∀ o, w.frozen? ⟨g, o, none⟩ = false → w'.frozen? ⟨g, o, none⟩ = false := fun o hv => (hb.frozen (p := ⟨g, o, none⟩) hg).trans hv
  have d0 := cc _ _ (h.r0 k (Nat.le_refl _) hk)
  have d1 := cc _ _ (h.r1 k (Nat.le_refl _) hk)
  have o1 : ∀ o v u, o ≠ k * 2 → o ≠ k * 2 + 1 → w.cell? ⟨g, o, none⟩ = some v → ((w'.setCell ⟨g, k * 2, none⟩ (.int .i64 (P k))).setCell ⟨g, k * 2 + 1, none⟩ u).cell? ⟨g, o, none⟩ = some v := fun o v u h1 h2 hv => by
    rw [World.cell?_setCell_other _ _ _ _ (fun e => h2 (by have := congrArg Addr.off e; simp at this; omega)), World.cell?_setCell_other _ _ _ _ (fun e => h1 (by have := congrArg Addr.off e; simp at this; omega))]
    exact cc _ _ hv
  refine ⟨fun i hi => ?_, fun i hi => ?_, fun i h1 h2 => ?_, fun i h1 h2 => ?_, fun i hi => ?_, fun i hi => ?_, fun i hi => ?_, fun i hi => ?_, fun i j h1 h2 => ?_⟩
  · by_cases e : i = k
    · subst e
      rw [World.cell?_setCell_other _ _ _ _ (fun e => by have := congrArg Addr.off e; simp at this), World.cell?_setCell_same _ _ _ d0]
    · exact o1 _ _ _ (by omega) (by omega) (h.c0 i (by omega))
  · by_cases e : i = k
    · subst e
      simp only [if_true]
      exact World.cell?_setCell_same _ _ _ (by rw [World.cell?_setCell_other _ _ _ _ (fun e => by have := congrArg Addr.off e; simp at this)]; exact d1)
    · simp only [if_neg e]
      exact o1 _ _ _ (by omega) (by omega) (h.c1 i (by omega))
  · exact o1 _ _ _ (by omega) (by omega) (h.r0 i (by omega) h2)
  · exact o1 _ _ _ (by omega) (by omega) (h.r1 i (by omega) h2)
  · rw [World.frozen?_setCell, World.frozen?_setCell]; exact ff _ (h.f0 i hi)
  · rw [World.frozen?_setCell, World.frozen?_setCell]; exact ff _ (h.f1 i hi)
  · by_cases e : i = k
    · subst e
      simp only [if_true]
      exact (hy.setCell (by simp; omega) _).setCell (by simp; omega) _
    · simp only [if_neg e]
      have hf := h.fr i (by omega)
      exact (((h.by' i (by omega)).below hb).setCell (by simp; omega) _).setCell (by simp; omega) _
  · rw [World.size_setCell, World.size_setCell]
    by_cases e : i = k
    · subst e
      simp only [if_true]
      omega
    · simp only [if_neg e]
      have hf := h.fr i (by omega)
      omega
  · have hf := h.fr i
    by_cases e : j = k
    · subst e
      have hf := h.fr i h1
      simp only [if_true, if_neg (show ¬ i = j by omega)]
      omega
    · simp only [if_neg e, if_neg (show ¬ i = k by omega)]
      exact h.ne i j h1 (by omega)

theorem eqKeepE {w W V : World} {S : World → Prop} (h : ∀ V, Below w.heap.size w V → S V) (h1 : Below w.heap.size w W) (hb : Below W.heap.size W V) : Below w.heap.size w V ∧ S V :=
  ⟨h1.trans (hb.mono h1.size), h V (h1.trans (hb.mono h1.size))⟩

theorem eqKeepDE {w V : World} {S : World → Prop} (h : ∀ V, Below w.heap.size w V → S V) (hb : Below w.drew.heap.size w.drew V) : Below w.heap.size w V ∧ S V :=
  eqKeepE h (Below.refl _ _).drew hb

set_option maxHeartbeats 400000 in
theorem eqRun_same (p : Int) (a b : Option Addr) (la lb ua ub : Nat) (zs : List Int) (n c d : Nat) (w : World) (hn : zs.length = n) (hm : n ≤ 140737488351232) (ha : BytesIn la ua w a zs) (hb : BytesIn lb ub w b zs) :
    Calls Tryz.prog 142 #[.agg #[.int .i64 p, .slice a n c], .agg #[.int .i64 p, .slice b n d]] w fun e w' => e = .returned (.bool true) ∧ Below w.heap.size w w' := by
  go_enter Tryz.func142, Tryz.ntmps142
  go_wp2_with fail
  refine (eqByteS_same a b la lb ua ub zs n c d _ hn hm (ha.below (by go_grown)) (hb.below (by go_grown))).mono ?_
  rintro e w' ⟨rfl, m, rfl⟩
  go_wp2_with fail
  go_ret
  exact ⟨rfl, below_draws (by go_grown) _⟩


section
variable {lo hi b n : Nat} {w w' : World} {P P' : Nat → Int} {A : Nat → Option Addr} {C : Nat → Nat} {Z Z' : Nat → List Int} {F : Nat → Nat}

theorem Own.congr (h : Own lo hi w b n P A C Z F) (hP : ∀ i, i < n → P i = P' i) (hZ : ∀ i, i < n → Z i = Z' i) : Own lo hi w b n P' A C Z' F :=
  ⟨h.l0, h.h0, fun i hi => by rw [← hP i hi]; exact h.c0 i hi, fun i hi => by rw [← hZ i hi]; exact h.c1 i hi, h.f0, h.f1, fun i hi => by rw [← hZ i hi]; exact h.by' i hi, fun i hi e => h.fr i hi (by rw [hZ i hi]; exact e), fun i j hi hj hn e1 e2 => h.ne i j hi hj hn (by rw [hZ i hi]; exact e1) (by rw [hZ j hj]; exact e2)⟩

theorem Own.lt (h : Own lo hi w b n P A C Z F) (h0 : 0 < n) : b < w.heap.size := World.block_lt_of_cell? w _ (h.c0 0 h0)

theorem BytesIn.setCellE {l u : Nat} {a : Option Addr} {zs : List Int} (h : BytesIn l u w a zs) {p : Addr} (hp : zs ≠ [] → p.block < l ∨ u ≤ p.block) (v : Value) : BytesIn l u (w.setCell p v) a zs := by
  by_cases e : zs = []
  · exact .inl e
  · exact h.turned (lo := p.block) (hi := p.block + 1) ((Turned.refl _ _ _).setCell (Nat.le_refl _) (Nat.lt_succ_self _) v) (by have := hp e; omega)

/-- The place of the j-th run is turned. -/
theorem Own.setAt (h : Own lo hi w b n P A C Z F) {j : Nat} (hj : j < n) (v : Int) : Own lo hi (w.setCell ⟨b, j * 2, none⟩ (.int .i64 v)) b n (fun i => if i = j then v else P i) A C Z F := by
  refine ⟨h.l0, h.h0, fun i hi => ?_, fun i hi => ?_, fun i hi => by rw [World.frozen?_setCell]; exact h.f0 i hi, fun i hi => by rw [World.frozen?_setCell]; exact h.f1 i hi, fun i hi => (h.by' i hi).setCellE (fun e => by have := h.fr i hi e; simp only; omega) _, h.fr, h.ne⟩
  · by_cases e : i = j
    · subst e
      simp only [if_true]
      exact World.cell?_setCell_same _ _ _ (h.c0 i hi)
    · simp only [if_neg e]
      rw [World.cell?_setCell_other _ _ _ _ (fun e2 => e (by have := congrArg Addr.off e2; simp at this; omega))]
      exact h.c0 i hi
  · rw [World.cell?_setCell_other _ _ _ _ (fun e2 => by have := congrArg Addr.off e2; simp at this; omega)]
    exact h.c1 i hi

/-- The bytes of the j-th run are turned. -/
theorem Own.setBytes (h : Own lo hi w b n P A C Z F) {j : Nat} (hj : j < n) (hne : Z j ≠ []) (ht : Turned (F j) (F j + 1) w w') {ys : List Int} (hl : ys.length = (Z j).length) (hy : BytesIn (F j) (F j + 1) w' (A j) ys) : Own lo hi w' b n P A C (fun i => if i = j then ys else Z i) F := by
  have hfj := h.fr j hj hne
  have hyn : ys ≠ [] := fun e => hne (by rw [e] at hl; exact List.eq_nil_of_length_eq_zero hl.symm)
  refine ⟨h.l0, h.h0, fun i hi => ht.cell (h.c0 i hi) (by simp only; omega), fun i hi => ?_, fun i hi => (ht.frozen (h.c0 i hi) (by simp only; omega)).trans (h.f0 i hi), fun i hi => (ht.frozen (h.c1 i hi) (by simp only; omega)).trans (h.f1 i hi), fun i hi => ?_, fun i hi e => ?_, fun i k hi hk hn e1 e2 => ?_⟩
  · rw [ht.cell (h.c1 i hi) (by simp only; omega)]
    by_cases e : i = j
    · subst e
      simp only [if_true]
      rw [hl]
    · simp only [if_neg e]
  · by_cases e : i = j
    · subst e
      simp only [if_true]
      exact hy
    · simp only [if_neg e]
      exact (h.by' i hi).turnedE ht (fun e2 => by have := h.ne i j hi hj e e2 hne; omega)
  · by_cases e3 : i = j
    · subst e3; exact hfj
    · simp only [if_neg e3] at e; exact h.fr i hi e
  · refine h.ne i k hi hk hn ?_ ?_
    · by_cases e3 : i = j
      · subst e3; exact hne
      · simpa only [if_neg e3] using e1
    · by_cases e3 : k = j
      · subst e3; exact hne
      · simpa only [if_neg e3] using e2
end

/-- The number with which the i-th run's marks begin. -/
def mk (Z : Nat → List Int) (k : Int) (i : Nat) : Int := k + i + took Z i
theorem mk_succ (Z : Nat → List Int) (k : Int) (i : Nat) : mk Z k (i + 1) = mk Z k i + 1 + (Z i).length := by unfold mk; simp only [took]; omega
/-- The bytes of the i-th run, marked. -/
def mZ (Z : Nat → List Int) (k : Int) (i : Nat) : List Int := marked (mk Z k i + 1) (Z i).length (Z i)
theorem mZ_len (Z : Nat → List Int) (k : Int) (i : Nat) : (mZ Z k i).length = (Z i).length := marked_length _ _ _ (Nat.le_refl _)


/-- The slice that begins at a reads as the pages ps. -/
def PgRead (w : World) (a : Option Addr) (ps : List (List Int)) : Prop :=
  ps = [] ∨ ∃ b off, a = some ⟨b, off, none⟩ ∧ ∀ i zs, ps[i]? = some zs → ∃ x c, w.cell? ⟨b, off + i, none⟩ = some (.slice x zs.length c) ∧ zs.length ≤ c ∧ Reads w x zs

theorem PgRead.below {w w' : World} {a : Option Addr} {ps : List (List Int)} (h : PgRead w a ps) {B : Nat} (hb : Below B w w') (hB : w.heap.size ≤ B) : PgRead w' a ps := by
  rcases h with h | ⟨b, off, ha, hc⟩
  · exact .inl h
  · refine .inr ⟨b, off, ha, fun i zs hz => ?_⟩
    obtain ⟨x, c, h0, h1, h2⟩ := hc i zs hz
    exact ⟨x, c, (hb.cell (p := ⟨b, _, none⟩) (Nat.lt_of_lt_of_le (World.block_lt_of_cell? w _ h0) hB)).trans h0, h1, h2.below hb hB⟩

theorem PgRead.page {w : World} {a : Option Addr} {ps : List (List Int)} (h : PgRead w a ps) {i : Nat} {zs : List Int} (hz : ps[i]? = some zs) : ∃ b off x c, a = some ⟨b, off, none⟩ ∧ w.cell? ⟨b, off + i, none⟩ = some (.slice x zs.length c) ∧ zs.length ≤ c ∧ Reads w x zs := by
  rcases h with h | ⟨b, off, ha, hc⟩
  · rw [h] at hz; simp at hz
  · obtain ⟨x, c, h0, h1, h2⟩ := hc i zs hz
    exact ⟨b, off, x, c, ha, h0, h1, h2⟩

/-- Bytes, and not too many. -/
def PgOk (ps : List (List Int)) : Prop := ∀ zs ∈ ps, zs.length ≤ 1048576 ∧ ∀ z ∈ zs, 0 ≤ z ∧ z ≤ 255

def pagesQ : List (List Int) → Int
  | [] => 0
  | z :: l => if pageC z = 0 then pagesQ l else pageC z
def spotsOf : Nat → List (List Int) → List Spt
  | _, [] => []
  | p, z :: l => pageL p z ++ spotsOf (p + 1) l
def allQ (ps : List (List Int)) : Int := if 12 < ps.length then 2 else pagesQ ps
def allL (ps : List (List Int)) : List Spt := if allQ ps = 0 then spotsOf 0 ps else []

theorem spotsOf_snoc (z : List Int) : ∀ (l : List (List Int)) (p : Nat), spotsOf p (l ++ [z]) = spotsOf p l ++ pageL (p + l.length : Nat) z
  | [], p => by simp [spotsOf]
  | y :: l, p => by
    have ih := spotsOf_snoc z l (p + 1)
    simp only [List.cons_append, spotsOf, ih, List.append_assoc, List.length_cons]
    rw [show p + 1 + l.length = p + (l.length + 1) by omega]

theorem take_snoc {α : Type} {l : List α} {j : Nat} {z : α} (h : l[j]? = some z) : l.take (j + 1) = l.take j ++ [z] := by
  obtain ⟨hl, e⟩ := List.getElem?_eq_some_iff.1 h
  rw [← e]; exact List.take_succ_eq_append_getElem hl
theorem drop_cons {α : Type} {l : List α} {j : Nat} {z : α} (h : l[j]? = some z) : l.drop j = z :: l.drop (j + 1) := by
  obtain ⟨hl, e⟩ := List.getElem?_eq_some_iff.1 h
  rw [← e]; exact List.drop_eq_getElem_cons hl
theorem at_lt' {α : Type} {rs : List α} {i : Nat} (h : i < rs.length) : ∃ r, rs[i]? = some r := ⟨rs[i], List.getElem?_eq_getElem h⟩

theorem pageC_fine {zs : List Int} (h : pageC zs = 0) : fltOf zs = 0 ∧ badTo zs (nb zs 0) = false := by
  unfold pageC at h
  split at h
  · rename_i h0
    refine ⟨h0, ?_⟩
    split at h
    · simp at h
    · rename_i h1; simpa using h1
  · rename_i h0; exact absurd h h0

theorem pageL_len (p : Int) {zs : List Int} (hz : ∀ z ∈ zs, 0 ≤ z ∧ z ≤ 255) : (pageL p zs).length ≤ 16 := by
  unfold pageL
  split
  · rename_i h
    have := (fine_of hz (pageC_fine h).1).few
    exact Nat.le_trans (cellsTo_len _ _ _) this
  · simp

theorem spotsOf_len : ∀ (l : List (List Int)) (p : Nat), PgOk l → (spotsOf p l).length ≤ 16 * l.length
  | [], _, _ => by simp [spotsOf]
  | z :: l, p, h => by
    have h1 := pageL_len p (h z (by simp)).2
    have h2 := spotsOf_len l (p + 1) (fun x hx => h x (by simp [hx]))
    simp only [spotsOf, List.length_append, List.length_cons]
    omega

set_option maxHeartbeats 2000000 in
theorem allCells_any (a : Option Addr) (ps : List (List Int)) (n c : Nat) (w : World) (hn : ps.length = n) (hm : n ≤ 9223372036854775807) (hp : PgOk ps) (hr : PgRead w a ps) :
    Calls Tryz.prog 115 #[.slice a n c] w fun e w' => ∃ v, e = .returned (.tuple #[v, .int .i64 (allQ ps)]) ∧ Below w.heap.size w w' ∧ w'.ownsRow w.heap.size 186 10 v (allL ps).length (flat spE (allL ps)) := by
  by_cases h12 : (12 : Int) < n
  · have HQ : Hid (allQ ps = 2) := by show _ = _; unfold allQ; rw [if_pos (by omega)]
    have HL : Hid (allL ps = []) := by show _ = _; unfold allL; rw [if_neg (by rw [HQ.out]; decide)]
    go_enter Tryz.func115, Tryz.ntmps115
    go_wp2_with fail
    go_ret2
    exact ⟨.slice none 0 0, by rw [HQ.out]; rfl, Below.refl _ _, by rw [HL.out]; exact ownsRow_nil _ _ _ _⟩
  have HQ : Hid (allQ ps = pagesQ ps) := by show _ = _; unfold allQ; rw [if_neg (by omega)]
  have d12 : decide ((12 : Int) < n) = false := by simpa using h12
  have hn12 : n ≤ 12 := by omega
  have HN : Hid (ps.length = n) := hn
  have HR : Hid (PgRead w a ps) := hr
  have HP : Hid (PgOk ps) := hp
  clear hn hr hp h12
  go_enter Tryz.func115, Tryz.ntmps115
  go_wp2_with fail
  go_loopw [14, 4] (fun i v wr => ∃ j : Nat, j ≤ n ∧ i = .int .i64 j ∧ Hid (pagesQ ps = pagesQ (ps.drop j)) ∧ Below w.heap.size w wr ∧ wr.ownsRow w.heap.size 186 10 v (spotsOf 0 (ps.take j)).length (flat spE (spotsOf 0 (ps.take j)))) (fun i _ _ => n - (intOf i).toNat)
  case atStart => exact ⟨0, Nat.zero_le _, rfl, rfl, Below.refl _ _, ownsRow_nil _ _ _ _⟩
  case round =>
    obtain ⟨j, hj, rfl, hq, g, ho⟩ := hrel
    by_cases hlt : j < n
    · obtain ⟨zs, hzs⟩ := at_lt' (rs := ps) (i := j) (by rw [HN.out]; exact hlt)
      obtain ⟨b, off, x, cx, rfl, e0, hcx, hx⟩ := (HR.out.below g (Nat.le_refl _)).page hzs
      have hjn : (j : Int) < (n : Int) := by omega
      obtain ⟨hz1, hz2⟩ := HP.out zs (List.mem_of_getElem? hzs)
      have HT : Hid (spotsOf 0 (ps.take (j + 1)) = spotsOf 0 (ps.take j) ++ pageL (j : Int) zs) := by
        show _ = _
        rw [take_snoc hzs, spotsOf_snoc, List.length_take, HN.out, Nat.min_eq_left (by omega), Nat.zero_add]
      have hlen : (spotsOf 0 (ps.take j)).length ≤ 200 := by
        have := spotsOf_len (ps.take j) 0 (fun z hz => HP.out z (List.mem_of_mem_take hz))
        rw [List.length_take] at this
        omega
      have hq1 : Hid (pagesQ ps = if pageC zs = 0 then pagesQ (ps.drop (j + 1)) else pageC zs) := by
        show _ = _
        rw [hq.out, drop_cons hzs]; rfl
      have hpl := pageL_len (j : Int) hz2
      clear hq hzs
      obtain ⟨xs, hxs⟩ : ∃ xs, xs = spotsOf 0 (ps.take j) := ⟨_, rfl⟩
      rw [← hxs] at ho hlen HT
      clear hxs
      go_wp2_with fail
      refine (cellsOf_any (j : Int) x zs zs.length cx _ rfl hz1 hcx hx hz2).mono ?_
      rintro e w2 ⟨v2, rfl, g2, o2⟩
      have ho := ownsRow_below ho g2
      have g3 := g.trans (g2.mono g.size)
      have hgs := g.size
      obtain ⟨ys, hys⟩ : ∃ ys, ys = pageL (j : Int) zs := ⟨_, rfl⟩
      rw [← hys] at o2 HT hpl
      clear hys g2 hx e0 hcx
      obtain ⟨a2, c2, rfl, hc2, s2, _⟩ := SlIn.ofRow spE_len o2
      have r2 := s2.reads
      clear s2 o2
      obtain ⟨f, hf⟩ : ∃ f, f = pageC zs := ⟨_, rfl⟩
      have hq2 : Hid (pagesQ ps = if f = 0 then pagesQ (ps.drop (j + 1)) else f) := by show _ = _; rw [hf]; exact hq1.out
      rw [← hf]
      clear hf hq1 g
      by_cases hf0 : f = 0
      · subst hf0
        go_wp2_with (at_builtin; refine wpList_append_sl elP _ rfl _ _ rfl w.heap.size _ xs ys a2 ys.length c2 rfl rfl rfl ho r2 (by omega) g3.size ?_)
        intro v' w' ho' hg' _
        have g4 : Below w.heap.size w w' := Below.grown g3 hg' g3.size (fun k hk => (ho.lt k hk).1)
        have ho2 : w'.ownsRow w.heap.size 186 10 v' (spotsOf 0 (ps.take (j + 1))).length (flat spE (spotsOf 0 (ps.take (j + 1)))) := by rw [HT.out, List.length_append]; exact ho'
        clear ho ho' hg' r2
        go_wp2_with fail
        go_roundw
        case rel => exact ⟨j + 1, by omega, by go_num, hq2.out, g4, ho2⟩
        case measure => simp [intOf]; omega
      · have HQ2 : Hid (allQ ps = f) := by show _ = _; rw [HQ.out, hq2.out, if_neg hf0]
        have HL : Hid (allL ps = []) := by show _ = _; unfold allL; rw [if_neg (by rw [HQ2.out]; exact hf0)]
        have df : (f != 0) = true := by simpa using hf0
        go_wp2_with fail
        go_ret2
        exact ⟨.slice none 0 0, by rw [HQ2.out]; rfl, g3, by rw [HL.out]; exact ownsRow_nil _ _ _ _⟩
    · have e : j = n := by omega
      subst e
      have HQ2 : Hid (allQ ps = 0) := by
        show _ = _
        rw [HQ.out, hq.out, List.drop_of_length_le (by rw [HN.out]; exact Nat.le_refl _)]; rfl
      have HL : Hid (allL ps = spotsOf 0 (ps.take j)) := by
        show _ = _
        unfold allL; rw [if_pos HQ2.out, List.take_of_length_le (by rw [HN.out]; exact Nat.le_refl _)]
      clear hq
      go_wp2_with fail
      go_ret2
      exact ⟨_, by rw [HQ2.out]; rfl, g, by rw [HL.out]; exact ho⟩

end Go.Proofs.YtnfolgoloaeanaaGreat

