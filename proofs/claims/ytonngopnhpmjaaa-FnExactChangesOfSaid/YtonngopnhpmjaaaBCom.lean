/-
  The contract of hasCommonByte: have two cells a byte in common?
-/
import Derived.Test.YtonngopnhpmjaaaBNew

namespace Go.Proofs.Ytonngopnhpmjaaa
open Go.RowKit
set_option linter.unusedVariables false

/-- Is place i one of the cell of slot s? -/
def inB (zs : List Int) (s i : Nat) : Bool := decide (nb zs (2 + 2 * s) ≤ i) && decide (i < nb zs (2 + 2 * s) + nb zs (3 + 2 * s))
/-- Is it one of a cell of the first k slots? -/
def usedB (zs : List Int) : Nat → Nat → Bool
  | 0, _ => false
  | k + 1, i => usedB zs k i || inB zs k i
/-- Has the cell of slot k a byte in common with one ahead? -/
def hitB (zs : List Int) (k : Nat) : Bool := (List.range 64).any fun i => inB zs k i && usedB zs k i
/-- Have two cells of the first k slots a byte in common? -/
def comB (zs : List Int) : Nat → Bool
  | 0 => false
  | k + 1 => comB zs k || hitB zs k

theorem comB_more (zs : List Int) (k : Nat) (h : comB zs k = true) : ∀ m, comB zs (k + m) = true
  | 0 => h
  | m + 1 => by rw [← Nat.add_assoc, comB, comB_more zs k h m]; rfl

/-- Block b holds 64 bools that may be written. -/
def Flags (w : World) (b : Nat) (u : Nat → Bool) : Prop := ∀ i, i < 64 → w.cell? ⟨b, i, none⟩ = some (.bool (u i)) ∧ w.frozen? ⟨b, i, none⟩ = false
theorem Flags.lt {w : World} {b : Nat} {u : Nat → Bool} (h : Flags w b u) : b < w.heap.size := World.block_lt_of_cell? w _ (h 0 (by omega)).1
theorem Flags.grown {w w' : World} {b : Nat} {u : Nat → Bool} (h : Flags w b u) (hb : Below w.heap.size w w') : Flags w' b u := fun i hi =>
  ⟨(hb.cell (p := ⟨b, i, none⟩) h.lt).trans (h i hi).1, (hb.frozen (p := ⟨b, i, none⟩) h.lt).trans (h i hi).2⟩
theorem Flags.set {w : World} {b : Nat} {u v : Nat → Bool} (h : Flags w b u) (a : Nat) (hv : ∀ i, i < 64 → v i = if i = a then true else u i) : Flags (w.setCell ⟨b, a, none⟩ (.bool true)) b v := fun i hi => by
  refine ⟨?_, by rw [World.frozen?_setCell]; exact (h i hi).2⟩
  rw [hv i hi]
  by_cases e : i = a
  · subst e
    rw [World.cell?_setCell_same _ _ _ (h i hi).1, if_pos rfl]
  · rw [World.cell?_setCell_other _ _ _ _ (fun h => e (by have := congrArg Addr.off h; simp at this; omega)), (h i hi).1, if_neg e]
theorem Flags.to {w : World} {b : Nat} {u v : Nat → Bool} (h : Flags w b u) (hv : ∀ i, i < 64 → v i = u i) : Flags w b v := fun i hi => by rw [hv i hi]; exact h i hi

theorem falses (i : Nat) (h : i < 64) : (Array.replicate 64 (Value.bool false))[i]? = some (.bool false) := by rw [Array.getElem?_replicate, if_pos h]

set_option maxHeartbeats 2000000 in
theorem hasCommon_any (zs : List Int) (w : World) (h : IsPg zs) (hc : nb zs 0 ≤ 16) (hr : ∀ s, s < nb zs 0 → nb zs (2 + 2 * s) + nb zs (3 + 2 * s) ≤ 64) :
    Calls Try.prog 214 #[.agg (pgC zs)] w fun e w' => e = .returned (.bool (comB zs (nb zs 0))) ∧ Below w.heap.size w w' := by
  obtain ⟨X, hX, hA, g⟩ := boxed zs w h
  obtain ⟨n, hn⟩ : ∃ n, n = nb zs 0 := ⟨_, rfl⟩
  have HN : Hid (n = nb zs 0) := hn
  have HR : Hid (∀ s, s < n → nb zs (2 + 2 * s) + nb zs (3 + 2 * s) ≤ 64) := by rw [hn]; exact hr
  rw [← hn] at hc ⊢
  clear hn hr
  go_enter Try.func214, Try.ntmps214
  go_upto_region 2 with (fail)
  generalize hY : World.alloc X _ = Y
  have hF : Flags Y X.heap.size (usedB zs 0) := fun i hi => by
    rw [← hY]
    refine ⟨?_, by simp [go_sem]⟩
    rw [cell_of_row _ _ i _ _ _ (heap_alloc_new X _)]
    exact falses i hi
  have hA : Arr Y w.heap.size zs := by rw [← hY]; exact hA.alloc _
  have g : Below w.heap.size w Y := by rw [← hY]; exact g.alloc g.size _
  clear hX hY
  go_wp2_with (refine wpList_loadPg rfl _ rfl _ rfl zs (by assumption) ?_)
  refine (slots_any zs _ h).mono ?_
  rintro e w1 ⟨rfl, g1⟩
  rw [← HN.out]
  have hA := hA.grown g1
  have hF := hF.grown g1
  have g : Below w.heap.size w w1 := g.trans (g1.mono g.size)
  clear g1
  have hbn : w.heap.size < X.heap.size := ‹Arr X w.heap.size zs›.lt
  generalize X.heap.size = b at hF hbn
  go_wp2_with fail
  go_loopw [9] (fun i wr => ∃ k : Nat, k ≤ n ∧ i = .int .u64 k ∧ Hid (comB zs k = false) ∧ Flags wr b (usedB zs k) ∧ Arr wr w.heap.size zs ∧ Below w.heap.size w wr) (fun i _ => n - (intOf i).toNat)
  case atStart => exact ⟨0, by omega, rfl, rfl, hF, hA, g⟩
  case round =>
    obtain ⟨k, hk, rfl, HC, hF, hA, g⟩ := hrel
    by_cases hlt : k < n
    · have hi : (k : Int) < (n : Int) := by omega
      have hlim := HR.out k hlt
      go_wp2_with (refine wpList_loadPg rfl _ rfl _ rfl zs (by assumption) ?_)
      refine (spanOf_any zs k _ h (by omega)).mono ?_
      rintro e w4 ⟨rfl, g4⟩
      have hA := hA.grown g4
      have hF := hF.grown g4
      have g : Below w.heap.size w w4 := g.trans (g4.mono g.size)
      clear g4
      obtain ⟨p, hp⟩ : ∃ p, p = nb zs (2 + 2 * k) := ⟨_, rfl⟩
      obtain ⟨l, hl⟩ : ∃ l, l = nb zs (3 + 2 * k) := ⟨_, rfl⟩
      have HI : Hid (∀ i, inB zs k i = (decide (p ≤ i) && decide (i < p + l))) := fun i => by rw [hp, hl]; rfl
      rw [← hp, ← hl] at hlim ⊢
      clear hp hl
      have hb4 : b < w4.heap.size := hF.lt
      go_upto_region 6 with (fail)
      generalize hZ : World.alloc w4 _ = Z
      have hA : Arr Z w.heap.size zs := by rw [← hZ]; exact hA.alloc _
      have hF : Flags Z b (usedB zs k) := hF.grown (by rw [← hZ]; exact (Below.refl _ _).alloc (Nat.le_refl _) _)
      have g : Below w.heap.size w Z := by rw [← hZ]; exact g.alloc g.size _
      have hs0 : Z.cell? ⟨w4.heap.size, 0, none⟩ = some (.int .u64 p) := by rw [← hZ]; simp [go_sem]
      have hs1 : Z.cell? ⟨w4.heap.size, 1, none⟩ = some (.int .u64 l) := by rw [← hZ]; simp [go_sem]
      have hw4 : w4.heap.size < Z.heap.size := World.block_lt_of_cell? Z _ hs0
      clear hZ
      generalize w4.heap.size = y at hs0 hs1 hb4 hw4
      have HK : Hid (comB zs k = false) := HC
      clear HC
      go_wp2_with fail
      go_loopw [6] (fun i wr => ∃ a : Nat, p ≤ a ∧ a ≤ p + l ∧ i = .int .u64 a ∧ Hid (∀ i, p ≤ i → i < a → usedB zs k i = false) ∧ Flags wr b (fun i => usedB zs k i || (decide (p ≤ i) && decide (i < a))) ∧ Arr wr w.heap.size zs ∧ Below w.heap.size w wr ∧ wr.cell? ⟨y, 0, none⟩ = some (.int .u64 p) ∧ wr.cell? ⟨y, 1, none⟩ = some (.int .u64 l)) (fun i _ => p + l - (intOf i).toNat)
      case atStart => exact ⟨p, Nat.le_refl _, by omega, rfl, fun i h1 h2 => by omega, hF.to (fun i _ => by rw [show (decide (p ≤ i) && decide (i < p)) = false by simp]; simp), hA, g, hs0, hs1⟩
      case round =>
        obtain ⟨a, ha1, ha2, rfl, HU, hF, hA, g, hs0, hs1⟩ := hrel
        go_wp2_with fail
        refine (spanEnd_any p l _ (by omega) (by omega)).mono ?_
        rintro e w6 ⟨rfl, g6⟩
        have hA := hA.grown g6
        have hF := hF.grown g6
        have hs0 : w6.cell? ⟨y, 0, none⟩ = some (.int .u64 p) := (g6.cell (p := ⟨y, 0, none⟩) (World.block_lt_of_cell? _ _ hs0)).trans hs0
        have hs1 : w6.cell? ⟨y, 1, none⟩ = some (.int .u64 l) := (g6.cell (p := ⟨y, 1, none⟩) (World.block_lt_of_cell? _ _ hs1)).trans hs1
        have g : Below w.heap.size w w6 := g.trans (g6.mono g.size)
        clear g6
        obtain ⟨q, hq⟩ : ∃ q, q = p + l := ⟨_, rfl⟩
        rw [← hq]
        rw [← hq] at ha2
        have hq64 : q ≤ 64 := by omega
        have HQ : Hid (q = p + l) := hq
        clear hq
        by_cases hend : a < q
        · have hia : (a : Int) < (q : Int) := by omega
          have h64 : (a : Int) < 64 := by omega
          obtain ⟨c1, c2⟩ := hF a (by omega)
          simp only [show (usedB zs k a || (decide (p ≤ a) && decide (a < a))) = usedB zs k a by simp] at c1
          cases hu : usedB zs k a
          · rw [hu] at c1
            have HU' : Hid (∀ i, p ≤ i → i < a + 1 → usedB zs k i = false) := fun i h1 h2 => by
              by_cases e : i = a
              · rw [e]; exact hu
              · exact HU.out i h1 (by omega)
            clear hu
            go_wp2_with fail
            go_roundw
            case rel =>
              refine ⟨a + 1, by omega, by have := HQ.out; omega, by go_num, HU', hF.set a (fun i hi => ?_), hA.other _ _ (by simp; omega), g.setCell (by simp; omega) _, ?_, ?_⟩
              · by_cases e : i = a
                · subst e; simp [ha1]
                · rw [if_neg e, show decide (i < a + 1) = decide (i < a) from decide_eq_decide.2 (by omega)]
              · rw [World.cell?_setCell_other _ _ _ _ (fun e => by have := congrArg Addr.block e; simp at this; omega)]; exact hs0
              · rw [World.cell?_setCell_other _ _ _ _ (fun e => by have := congrArg Addr.block e; simp at this; omega)]; exact hs1
            case measure => have := HQ.out; simp [intOf]; omega
          · rw [hu] at c1
            have HT : Hid (comB zs n = true) := by
              have h1 : hitB zs k = true := by
                unfold hitB
                rw [List.any_eq_true]
                refine ⟨a, by simp; omega, ?_⟩
                have := HQ.out
                rw [hu, HI.out a, show decide (p ≤ a) = true by simpa using ha1, show decide (a < p + l) = true by simp; omega]
                rfl
              have h2 := comB_more zs (k + 1) (by rw [comB, h1]; simp) (n - (k + 1))
              rw [show k + 1 + (n - (k + 1)) = n by omega] at h2
              exact h2
            clear hu
            go_wp2_with fail
            go_ret
            exact ⟨by rw [HT.out]; rfl, g⟩
        · have e : a = q := by omega
          subst e
          have HF : Hid (Flags w6 b (usedB zs (k + 1))) := hF.to (fun i _ => by rw [usedB, HI.out i, HQ.out])
          have HK' : Hid (comB zs (k + 1) = false) := by
            show _ = _
            rw [comB, HK.out]
            show (false || hitB zs k) = false
            rw [Bool.false_or, hitB, List.any_eq_false]
            intro i _
            rw [HI.out i]
            by_cases e : p ≤ i ∧ i < p + l
            · rw [HU.out i e.1 (by rw [HQ.out]; exact e.2)]; simp
            · rw [show (decide (p ≤ i) && decide (i < p + l)) = false by simp; omega]; simp
          clear hF
          go_wp2_with fail
          go_roundw
          case rel => exact ⟨k + 1, by omega, by go_num, HK', HF.out, hA, g⟩
          case measure => simp [intOf]; omega
    · have e : k = n := by omega
      subst e
      go_wp2_with fail
      go_ret
      exact ⟨by rw [HC.out]; rfl, g⟩

end Go.Proofs.Ytonngopnhpmjaaa
