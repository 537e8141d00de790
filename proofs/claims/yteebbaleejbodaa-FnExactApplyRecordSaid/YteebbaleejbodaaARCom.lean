/-
  The contract of hasCommonByte: have two cells a byte in common?
-/
import Derived.Test.YteebbaleejbodaaARRdw
import Derived.Test.YteebbaleejbodaaARWr

namespace Go.Proofs.Yteebbaleejbodaa
open Go.RowKit
set_option linter.unusedVariables false

/-- Is place i one of the cell of slot s? -/
def inB (zs : List Int) (s i : Nat) : Bool := decide (nb zs (2 + 2 * s) ≤ i) && decide (i < nb zs (2 + 2 * s) + nb zs (3 + 2 * s))
/-- Is it one of a cell of the first k slots? -/
def usedB (zs : List Int) : Nat → Nat → Bool
  | 0, _ => false
  | k + 1, i => usedB zs k i || inB zs k i
/-- Has the cell of slot k a byte in common with one ahead? -/
def hitB (zs : List Int) (k : Nat) : Bool := (List.range 64).any fun i => inB zs k i && usedB zs k i
/-- Have two cells of the first k slots a byte in common? -/
def comB (zs : List Int) : Nat → Bool
  | 0 => false
  | k + 1 => comB zs k || hitB zs k

theorem comB_more (zs : List Int) (k : Nat) (h : comB zs k = true) : ∀ m, comB zs (k + m) = true
  | 0 => h
  | m + 1 => by rw [← Nat.add_assoc, comB, comB_more zs k h m]; rfl

/-- Block b holds 64 bools that may be written. -/
def Flags (w : World) (b : Nat) (u : Nat → Bool) : Prop := ∀ i, i < 64 → w.cell? ⟨b, i, none⟩ = some (.bool (u i)) ∧ w.frozen? ⟨b, i, none⟩ = false
theorem Flags.lt {w : World} {b : Nat} {u : Nat → Bool} (h : Flags w b u) : b < w.heap.size := World.block_lt_of_cell? w _ (h 0 (by omega)).1
theorem Flags.grown {w w' : World} {b : Nat} {u : Nat → Bool} (h : Flags w b u) (hb : Below w.heap.size w w') : Flags w' b u := fun i hi =>
  ⟨(hb.cell (p := ⟨b, i, none⟩) h.lt).trans (h i hi).1, (hb.frozen (p := ⟨b, i, none⟩) h.lt).trans (h i hi).2⟩
theorem Flags.set {w : World} {b : Nat} {u v : Nat → Bool} (h : Flags w b u) (a : Nat) (hv : ∀ i, i < 64 → v i = if i = a then true else u i) : Flags (w.setCell ⟨b, a, none⟩ (.bool true)) b v := fun i hi => by
  refine ⟨?_, by rw [World.frozen?_setCell]; exact (h i hi).2⟩
  rw [hv i hi]
  by_cases e : i = a
  · subst e
    rw [World.cell?_setCell_same _ _ _ (h i hi).1, if_pos rfl]
  · rw [World.cell?_setCell_other _ _ _ _ (fun h => e (by have := congrArg Addr.off h; simp at this; omega)), (h i hi).1, if_neg e]
theorem Flags.to {w : World} {b : Nat} {u v : Nat → Bool} (h : Flags w b u) (hv : ∀ i, i < 64 → v i = u i) : Flags w b v := fun i hi => by rw [hv i hi]; exact h i hi

theorem falses (i : Nat) (h : i < 64) : (Array.replicate 64 (Value.bool false))[i]? = some (.bool false) := by rw [Array.getElem?_replicate, if_pos h]

set_option maxHeartbeats 2000000 in
theorem hasCommon_any (zs : List Int) (w : World) (h : IsPg zs) (hc : nb zs 0 ≤ 16) (hr : ∀ s, s < nb zs 0 → nb zs (2 + 2 * s) + nb zs (3 + 2 * s) ≤ 64) :
    Calls Try.prog 214 #[.agg (pgC zs)] w fun e w' => e = .returned (.bool (comB zs (nb zs 0))) ∧ Below w.heap.size w w' := by
  obtain ⟨X, hX, hA, g⟩ := boxed zs w h
  obtain ⟨n, hn⟩ : ∃ n, n = nb zs 0 := ⟨_, rfl⟩
  have HN : Hid (n = nb zs 0) := hn
  have HR : Hid (∀ s, s < n → nb zs (2 + 2 * s) + nb zs (3 + 2 * s) ≤ 64) := by rw [hn]; exact hr
  rw [← hn] at hc ⊢
  clear hn hr
  go_enter Try.func214, Try.ntmps214
  go_upto_region 2 with (fail)
  generalize hY : World.alloc X _ = Y
  have hF : Flags Y X.heap.size (usedB zs 0) := fun i hi => by
    rw [← hY]
    refine ⟨?_, by simp [go_sem]⟩
    rw [cell_of_row _ _ i _ _ _ (heap_alloc_new X _)]
    exact falses i hi
  have hA : Arr Y w.heap.size zs := by rw [← hY]; exact hA.alloc _
  have g : Below w.heap.size w Y := by rw [← hY]; exact g.alloc g.size _
  clear hX hY
  go_wp2_with (refine wpList_loadPg rfl _ rfl _ rfl zs (by assumption) ?_)
  refine (slots_any zs _ h).mono ?_
  rintro e w1 ⟨rfl, g1⟩
  rw [← HN.out]
  have hA := hA.grown g1
  have hF := hF.grown g1
  have g : Below w.heap.size w w1 := g.trans (g1.mono g.size)
  clear g1
  have hbn : w.heap.size < X.heap.size := ‹Arr X w.heap.size zs›.lt
  generalize X.heap.size = b at hF hbn
  go_wp2_with fail
  go_loopw [9] (fun i wr => ∃ k : Nat, k ≤ n ∧ i = .int .u64 k ∧ Hid (comB zs k = false) ∧ Flags wr b (usedB zs k) ∧ Arr wr w.heap.size zs ∧ Below w.heap.size w wr) (fun i _ => n - (intOf i).toNat)
  case atStart => exact ⟨0, by omega, rfl, rfl, hF, hA, g⟩
  case round =>
    obtain ⟨k, hk, rfl, HC, hF, hA, g⟩ := hrel
    by_cases hlt : k < n
    · have hi : (k : Int) < (n : Int) := by omega
      have hlim := HR.out k hlt
      go_wp2_with (refine wpList_loadPg rfl _ rfl _ rfl zs (by assumption) ?_)
      refine (spanOf_any zs k _ h (by omega)).mono ?_
      rintro e w4 ⟨rfl, g4⟩
      have hA := hA.grown g4
      have hF := hF.grown g4
      have g : Below w.heap.size w w4 := g.trans (g4.mono g.size)
      clear g4
      obtain ⟨p, hp⟩ : ∃ p, p = nb zs (2 + 2 * k) := ⟨_, rfl⟩
      obtain ⟨l, hl⟩ : ∃ l, l = nb zs (3 + 2 * k) := ⟨_, rfl⟩
      have HI : Hid (∀ i, inB zs k i = (decide (p ≤ i) && decide (i < p + l))) := fun i => by rw [hp, hl]; rfl
      rw [← hp, ← hl] at hlim ⊢
      clear hp hl
      have hb4 : b < w4.heap.size := hF.lt
      go_upto_region 6 with (fail)
      generalize hZ : World.alloc w4 _ = Z
      have hA : Arr Z w.heap.size zs := by rw [← hZ]; exact hA.alloc _
      have hF : Flags Z b (usedB zs k) := hF.grown (by rw [← hZ]; exact (Below.refl _ _).alloc (Nat.le_refl _) _)
      have g : Below w.heap.size w Z := by rw [← hZ]; exact g.alloc g.size _
      have hs0 : Z.cell? ⟨w4.heap.size, 0, none⟩ = some (.int .u64 p) := by rw [← hZ]; simp [go_sem]
      have hs1 : Z.cell? ⟨w4.heap.size, 1, none⟩ = some (.int .u64 l) := by rw [← hZ]; simp [go_sem]
      have hw4 : w4.heap.size < Z.heap.size := World.block_lt_of_cell? Z _ hs0
      clear hZ
      generalize w4.heap.size = y at hs0 hs1 hb4 hw4
      have HK : Hid (comB zs k = false) := HC
      clear HC
      go_wp2_with fail
      go_loopw [6] (fun i wr => ∃ a : Nat, p ≤ a ∧ a ≤ p + l ∧ i = .int .u64 a ∧ Hid (∀ i, p ≤ i → i < a → usedB zs k i = false) ∧ Flags wr b (fun i => usedB zs k i || (decide (p ≤ i) && decide (i < a))) ∧ Arr wr w.heap.size zs ∧ Below w.heap.size w wr ∧ wr.cell? ⟨y, 0, none⟩ = some (.int .u64 p) ∧ wr.cell? ⟨y, 1, none⟩ = some (.int .u64 l)) (fun i _ => p + l - (intOf i).toNat)
      case atStart => exact ⟨p, Nat.le_refl _, by omega, rfl, fun i h1 h2 => by omega, hF.to (fun i _ => by rw [show (decide (p ≤ i) && decide (i < p)) = false by simp]; simp), hA, g, hs0, hs1⟩
      case round =>
        obtain ⟨a, ha1, ha2, rfl, HU, hF, hA, g, hs0, hs1⟩ := hrel
        go_wp2_with fail
        refine (spanEnd_any p l _ (by omega) (by omega)).mono ?_
        rintro e w6 ⟨rfl, g6⟩
        have hA := hA.grown g6
        have hF := hF.grown g6
        have hs0 : w6.cell? ⟨y, 0, none⟩ = some (.int .u64 p) := (g6.cell (p := ⟨y, 0, none⟩) (World.block_lt_of_cell? _ _ hs0)).trans hs0
        have hs1 : w6.cell? ⟨y, 1, none⟩ = some (.int .u64 l) := (g6.cell (p := ⟨y, 1, none⟩) (World.block_lt_of_cell? _ _ hs1)).trans hs1
        have g : Below w.heap.size w w6 := g.trans (g6.mono g.size)
        clear g6
        obtain ⟨q, hq⟩ : ∃ q, q = p + l := ⟨_, rfl⟩
        rw [← hq]
        rw [← hq] at ha2
        have hq64 : q ≤ 64 := by omega
        have HQ : Hid (q = p + l) := hq
        clear hq
        by_cases hend : a < q
        · have hia : (a : Int) < (q : Int) := by omega
          have h64 : (a : Int) < 64 := by omega
          obtain ⟨c1, c2⟩ := hF a (by omega)
          simp only [show (usedB zs k a || (decide (p ≤ a) && decide (a < a))) = usedB zs k a by simp] at c1
          cases hu : usedB zs k a
          · rw [hu] at c1
            have HU' : Hid (∀ i, p ≤ i → i < a + 1 → usedB zs k i = false) := fun i h1 h2 => by
              by_cases e : i = a
              · rw [e]; exact hu
              · exact HU.out i h1 (by omega)
            clear hu
            go_wp2_with fail
            go_roundw
            case rel =>
              refine ⟨a + 1, by omega, by have := HQ.out; omega, by go_num, HU', hF.set a (fun i hi => ?_), hA.other _ _ (by simp; omega), g.setCell (by simp; omega) _, ?_, ?_⟩
              · by_cases e : i = a
                · subst e; simp [ha1]
                · rw [if_neg e, show decide (i < a + 1) = decide (i < a) from decide_eq_decide.2 (by omega)]
              · rw [World.cell?_setCell_other _ _ _ _ (fun e => by have := congrArg Addr.block e; simp at this; omega)]; exact hs0
              · rw [World.cell?_setCell_other _ _ _ _ (fun e => by have := congrArg Addr.block e; simp at this; omega)]; exact hs1
            case measure => have := HQ.out; simp [intOf]; omega
          · rw [hu] at c1
            have HT : Hid (comB zs n = true) := by
              have h1 : hitB zs k = true := by
                unfold hitB
                rw [List.any_eq_true]
                refine ⟨a, by simp; omega, ?_⟩
                have := HQ.out
                rw [hu, HI.out a, show decide (p ≤ a) = true by simpa using ha1, show decide (a < p + l) = true by simp; omega]
                rfl
              have h2 := comB_more zs (k + 1) (by rw [comB, h1]; simp) (n - (k + 1))
              rw [show k + 1 + (n - (k + 1)) = n by omega] at h2
              exact h2
            clear hu
            go_wp2_with fail
            go_ret
            exact ⟨by rw [HT.out]; rfl, g⟩
        · have e : a = q := by omega
          subst e
          have HF : Hid (Flags w6 b (usedB zs (k + 1))) := hF.to (fun i _ => by rw [usedB, HI.out i, HQ.out])
          have HK' : Hid (comB zs (k + 1) = false) := by
            show _ = _
            rw [comB, HK.out]
            show (false || hitB zs k) = false
            rw [Bool.false_or, hitB, List.any_eq_false]
            intro i _
            rw [HI.out i]
            by_cases e : p ≤ i ∧ i < p + l
            · rw [HU.out i e.1 (by rw [HQ.out]; exact e.2)]; simp
            · rw [show (decide (p ≤ i) && decide (i < p + l)) = false by simp; omega]; simp
          clear hF
          go_wp2_with fail
          go_roundw
          case rel => exact ⟨k + 1, by omega, by go_num, HK', HF.out, hA, g⟩
          case measure => simp [intOf]; omega
    · have e : k = n := by omega
      subst e
      go_wp2_with fail
      go_ret
      exact ⟨by rw [HC.out]; rfl, g⟩

end Go.Proofs.Yteebbaleejbodaa

/-
  The contract of fault: the fault of a page as the program asks it.
-/
namespace Go.Proofs.Yteebbaleejbodaa
open Go.RowKit
set_option linter.unusedVariables false

def headB (zs : List Int) : Bool := decide (16 < nb zs 0) || decide (nb zs 1 < 2 + 2 * nb zs 0) || decide (64 < nb zs 1)
def wrgS (zs : List Int) (s : Nat) : Bool := wrongB (nb zs 1) (nb zs (2 + 2 * s)) (nb zs (3 + 2 * s))
/-- Is one of the first k slots wrong? -/
def wrgN (zs : List Int) : Nat → Bool
  | 0 => false
  | k + 1 => wrgN zs k || wrgS zs k
def faultP (zs : List Int) : Int := if headB zs = true then 3 else if wrgN zs (nb zs 0) = true then 3 else if (comB zs (nb zs 0) || endB zs) = true then 8 else 0

theorem wrgN_more (zs : List Int) (k : Nat) (h : wrgN zs k = true) : ∀ m, wrgN zs (k + m) = true
  | 0 => h
  | m + 1 => by rw [← Nat.add_assoc, wrgN, wrgN_more zs k h m]; rfl
theorem wrgN_at (zs : List Int) : ∀ k, wrgN zs k = false → ∀ s, s < k → wrgS zs s = false
  | 0, _, s, hs => by omega
  | k + 1, h, s, hs => by
    rw [wrgN, Bool.or_eq_false_iff] at h
    by_cases e : s = k
    · rw [e]; exact h.2
    · exact wrgN_at zs k h.1 s (by omega)
theorem wrongB_end (low p l : Nat) (h : wrongB low p l = false) : p + l ≤ 64 := by
  unfold wrongB at h
  by_cases h1 : p = 0 ∧ l = 0
  · omega
  · have : (p == 0 && l == 0) = false := by simp; omega
    rw [this] at h
    simp at h
    omega

def PgS (w : World) (zs : List Int) (V : World) : Prop := Arr V w.heap.size zs ∧ Below w.heap.size w V
theorem pgKeep {w : World} {zs : List Int} {W V : World} (h : PgS w zs W) (hb : Below W.heap.size W V) : PgS w zs V := ⟨h.1.grown hb, h.2.trans (hb.mono h.2.size)⟩

set_option maxHeartbeats 4000000 in
theorem fault_any (zs : List Int) (w : World) (h : IsPg zs) :
    Calls Try.prog 203 #[.agg (pgC zs)] w fun e w' => e = .returned (.int .i64 (faultP zs)) ∧ Below w.heap.size w w' := by
  obtain ⟨X, hX, hA, g⟩ := boxed zs w h
  have hnl := nb_lt h 0
  have hml := nb_lt h 1
  obtain ⟨n, hn⟩ : ∃ n, n = nb zs 0 := ⟨_, rfl⟩
  obtain ⟨m, hm⟩ : ∃ m, m = nb zs 1 := ⟨_, rfl⟩
  have HN : Hid (n = nb zs 0) := hn
  have HM : Hid (m = nb zs 1) := hm
  have HB : Hid (headB zs = (decide (16 < n) || decide (m < 2 + 2 * n) || decide (64 < m))) := by show _ = _; rw [hn, hm]; rfl
  rw [← hn] at hnl
  rw [← hm] at hml
  clear hn hm
  go_enter Try.func203, Try.ntmps203
  go_upto_region 1 with (fail)
  clear hX
  refine wp_region_held_drew (S := fun V => Arr V w.heap.size zs ∧ Below w.heap.size w V) (by kernel_rfl) ⟨hA.grown (Below.refl _ _).drew, g.drew⟩ (fun hHeld => ?_)
  refine wpAnyH_take (i := 0) (v := .agg (pgC zs)) rfl (by kernel_rfl) (by kernel_rfl) (by kernel_rfl) (fun _ _ _ h => h) (yieldsIf_loadPg (by kernel_rfl) _ rfl w.heap.size rfl zs (fun W hS => hS.1)) hHeld ?_
  try simp only [List.getElem_toArray]
  try simp only [List.getElem_cons_succ]
  try simp only [List.getElem_cons_zero]
  try simp only [Act.put]
  try simp only [List.setIfInBounds_toArray]
  try simp only [List.set]
  refine wpAnyH_take (i := 2) (v := .agg (pgC zs)) rfl (by kernel_rfl) (by kernel_rfl) (by kernel_rfl) (fun _ _ _ h => h) (yieldsIf_loadPg (by kernel_rfl) _ rfl w.heap.size rfl zs (fun W hS => hS.1)) hHeld ?_
  try simp only [List.getElem_toArray]
  try simp only [List.getElem_cons_succ]
  try simp only [List.getElem_cons_zero]
  try simp only [Act.put]
  try simp only [List.setIfInBounds_toArray]
  try simp only [List.set]
  refine wpAnyH_ready (rs := [1]) (by kernel_rfl) (by simp) ?_
  refine AllReadyH.cons rfl (fun K hK => ?_) AllReadyH.nil
  go_simp
  go_wp2_with (go_at_call 187; refine (slots_any zs _ h).mono ?_; rintro e w' ⟨rfl, hb⟩; rw [← HN.out])
  refine hK.out _ _ (pgKeep hHeld hb) (fun hHeld => ?_)
  clear hK K
  try simp only [Act.put]
  try simp only [List.setIfInBounds_toArray]
  try simp only [List.set]
  refine wpAnyH_ready (rs := [3]) (by kernel_rfl) (by simp) ?_
  refine AllReadyH.cons rfl (fun K hK => ?_) AllReadyH.nil
  go_simp
  go_wp2_with (go_at_call 212; refine (low_any zs _ h).mono ?_; rintro e w' ⟨rfl, hb⟩; rw [← HM.out])
  refine hK.out _ _ (pgKeep hHeld hb) (fun hHeld => ?_)
  clear hK K
  try simp only [Act.put]
  try simp only [List.setIfInBounds_toArray]
  try simp only [List.set]
  refine wpAnyH_take (i := 4) (v := .int .u64 n) rfl (by kernel_rfl) (by kernel_rfl) (by kernel_rfl) (fun _ _ _ h => h) (Or.inl ⟨by kernel_rfl, fun u hSw => by (try dsimp only at hSw); go_simp; try with_reducible rfl⟩) hHeld ?_
  try simp only [List.getElem_toArray]
  try simp only [List.getElem_cons_succ]
  try simp only [List.getElem_cons_zero]
  try simp only [Act.put]
  try simp only [List.setIfInBounds_toArray]
  try simp only [List.set]
  refine wpAnyH_take (i := 5) (v := .int .u64 m) rfl (by kernel_rfl) (by kernel_rfl) (by kernel_rfl) (fun _ _ _ h => h) (Or.inl ⟨by kernel_rfl, fun u hSw => by (try dsimp only at hSw); go_simp; try with_reducible rfl⟩) hHeld ?_
  try simp only [List.getElem_toArray]
  try simp only [List.getElem_cons_succ]
  try simp only [List.getElem_cons_zero]
  try simp only [Act.put]
  try simp only [List.setIfInBounds_toArray]
  try simp only [List.set]
  refine wpAnyH_done (by kernel_rfl) ?_ _
  obtain ⟨hA, g⟩ := hHeld
  have h3 : headB zs = true → faultP zs = 3 := fun hh => by rw [faultP, if_pos hh]
  have H3 : Hid (headB zs = true → faultP zs = 3) := h3
  clear h3
  by_cases c1 : 16 < n
  · have HF : Hid (faultP zs = 3) := H3.out (by rw [HB.out]; simp [c1])
    have d1 : decide (16 < n) = true := by simpa using c1
    have i1 : (16 : Int) < (n : Int) := by omega
    go_wp2_with fail
    go_ret
    exact ⟨by rw [HF.out]; rfl, g⟩
  by_cases c2 : m < 2 + 2 * n
  · have HF : Hid (faultP zs = 3) := H3.out (by rw [HB.out]; simp [c2])
    have d1 : decide (16 < n) = false := by simpa using c1
    have i1 : ¬ (16 : Int) < (n : Int) := by omega
    go_wp2_with fail
    refine (dirEnd_any n _ (by omega)).mono ?_
    rintro e w4 ⟨rfl, rfl⟩
    obtain ⟨q, hq⟩ : ∃ q, q = 2 + 2 * n := ⟨_, rfl⟩
    rw [← hq] at c2 ⊢
    clear hq
    have d2 : decide (m < q) = true := by simpa using c2
    have i2 : (m : Int) < (q : Int) := by omega
    go_wp2_with fail
    go_ret
    exact ⟨by rw [HF.out]; rfl, g⟩
  by_cases c3 : 64 < m
  · have HF : Hid (faultP zs = 3) := H3.out (by rw [HB.out]; simp [c3])
    have d1 : decide (16 < n) = false := by simpa using c1
    have i1 : ¬ (16 : Int) < (n : Int) := by omega
    go_wp2_with fail
    refine (dirEnd_any n _ (by omega)).mono ?_
    rintro e w4 ⟨rfl, rfl⟩
    obtain ⟨q, hq⟩ : ∃ q, q = 2 + 2 * n := ⟨_, rfl⟩
    rw [← hq] at c2 ⊢
    clear hq
    have d2 : decide (m < q) = false := by simpa using c2
    have i2 : ¬ (m : Int) < (q : Int) := by omega
    have d3 : decide (64 < m) = true := by simpa using c3
    have i3 : (64 : Int) < (m : Int) := by omega
    go_wp2_with fail
    go_ret
    exact ⟨by rw [HF.out]; rfl, g⟩
  have H0 : Hid (faultP zs = if wrgN zs n = true then 3 else if (comB zs n || endB zs) = true then 8 else 0) := by
    show _ = _
    rw [faultP, if_neg (by rw [HB.out]; simp [c1, c2, c3]), ← HN.out]
  have d1 : decide (16 < n) = false := by simpa using c1
  have i1 : ¬ (16 : Int) < (n : Int) := by omega
  go_wp2_with fail
  refine (dirEnd_any n _ (by omega)).mono ?_
  rintro e w4 ⟨rfl, rfl⟩
  obtain ⟨q, hq⟩ : ∃ q, q = 2 + 2 * n := ⟨_, rfl⟩
  rw [← hq] at c2 ⊢
  clear hq
  have d2 : decide (m < q) = false := by simpa using c2
  have i2 : ¬ (m : Int) < (q : Int) := by omega
  have d3 : decide (64 < m) = false := by simpa using c3
  have i3 : ¬ (64 : Int) < (m : Int) := by omega
  go_wp2_with fail
  clear d1 i1 d2 i2 d3 i3 c2 H3 HB
  go_loopw [23] (fun i wr => ∃ k : Nat, k ≤ n ∧ i = .int .u64 k ∧ Hid (wrgN zs k = false) ∧ Arr wr w.heap.size zs ∧ Below w.heap.size w wr) (fun i _ => n - (intOf i).toNat)
  case atStart => exact ⟨0, by omega, rfl, rfl, hA, g⟩
  case round =>
    obtain ⟨k, hk, rfl, HW, hA, g⟩ := hrel
    by_cases hlt : k < n
    · have hi : (k : Int) < (n : Int) := by omega
      cases hs : wrgS zs k
      · have HS : Hid (wrongB (nb zs 1) (nb zs (2 + 2 * k)) (nb zs (3 + 2 * k)) = false) := hs
        have HW' : Hid (wrgN zs (k + 1) = false) := by show _ = _; rw [wrgN, HW.out, hs]; rfl
        clear hs
        go_upto_region 7 with (fail)
        refine wp_region_held_drew (S := fun V => Arr V w.heap.size zs ∧ Below w.heap.size w V) (by kernel_rfl) ⟨hA.grown (Below.refl _ _).drew, g.drew⟩ (fun hHeld => ?_)
        refine wpAnyH_take (i := 0) (v := .agg (pgC zs)) rfl (by kernel_rfl) (by kernel_rfl) (by kernel_rfl) (fun _ _ _ h => h) (yieldsIf_loadPg (by kernel_rfl) _ rfl w.heap.size rfl zs (fun W hS => hS.1)) hHeld ?_
        try simp only [List.getElem_toArray]
        try simp only [List.getElem_cons_succ]
        try simp only [List.getElem_cons_zero]
        try simp only [Act.put]
        try simp only [List.setIfInBounds_toArray]
        try simp only [List.set]
        refine wpAnyH_take (i := 1) (v := .agg (pgC zs)) rfl (by kernel_rfl) (by kernel_rfl) (by kernel_rfl) (fun _ _ _ h => h) (yieldsIf_loadPg (by kernel_rfl) _ rfl w.heap.size rfl zs (fun W hS => hS.1)) hHeld ?_
        try simp only [List.getElem_toArray]
        try simp only [List.getElem_cons_succ]
        try simp only [List.getElem_cons_zero]
        try simp only [Act.put]
        try simp only [List.setIfInBounds_toArray]
        try simp only [List.set]
        refine wpAnyH_take (i := 2) (v := .int .u64 k) rfl (by kernel_rfl) (by kernel_rfl) (by kernel_rfl) (fun _ _ _ h => h) (Or.inl ⟨by kernel_rfl, fun u hSw => by (try dsimp only at hSw); go_simp; try with_reducible rfl⟩) hHeld ?_
        try simp only [List.getElem_toArray]
        try simp only [List.getElem_cons_succ]
        try simp only [List.getElem_cons_zero]
        try simp only [Act.put]
        try simp only [List.setIfInBounds_toArray]
        try simp only [List.set]
        refine wpAnyH_ready (rs := [3]) (by kernel_rfl) (by simp) ?_
        refine AllReadyH.cons rfl (fun K hK => ?_) AllReadyH.nil
        go_simp
        go_wp2_with (go_at_call 188; refine (spanOf_any zs k _ h (by omega)).mono ?_; rintro e w' ⟨rfl, hb⟩)
        refine hK.out _ _ (pgKeep hHeld hb) (fun hHeld => ?_)
        clear hK K
        try simp only [Act.put]
        try simp only [List.setIfInBounds_toArray]
        try simp only [List.set]
        refine wpAnyH_ready (rs := [4]) (by kernel_rfl) (by simp) ?_
        refine AllReadyH.cons rfl (fun K hK => ?_) AllReadyH.nil
        go_simp
        go_wp2_with (go_at_call 213; refine (isSpanWrong_any zs _ _ _ h (nb_lt h _) (nb_lt h _)).mono ?_; rintro e w' ⟨rfl, hb⟩; rw [HS.out])
        refine hK.out _ _ (pgKeep hHeld hb) (fun hHeld => ?_)
        clear hK K
        try simp only [Act.put]
        try simp only [List.setIfInBounds_toArray]
        try simp only [List.set]
        refine wpAnyH_done (by kernel_rfl) ?_ _
        obtain ⟨hA, g⟩ := hHeld
        go_wp2_with fail
        go_roundw
        case rel => exact ⟨k + 1, by omega, by go_num, HW', hA, g⟩
        case measure => simp [intOf]; omega
      · have HS : Hid (wrongB (nb zs 1) (nb zs (2 + 2 * k)) (nb zs (3 + 2 * k)) = true) := hs
        have HF : Hid (faultP zs = 3) := by
          have h2 := wrgN_more zs (k + 1) (by rw [wrgN, hs]; simp) (n - (k + 1))
          rw [show k + 1 + (n - (k + 1)) = n by omega] at h2
          show _ = _
          rw [H0.out, if_pos h2]
        clear hs
        go_upto_region 7 with (fail)
        refine wp_region_held_drew (S := fun V => Arr V w.heap.size zs ∧ Below w.heap.size w V) (by kernel_rfl) ⟨hA.grown (Below.refl _ _).drew, g.drew⟩ (fun hHeld => ?_)
        refine wpAnyH_take (i := 0) (v := .agg (pgC zs)) rfl (by kernel_rfl) (by kernel_rfl) (by kernel_rfl) (fun _ _ _ h => h) (yieldsIf_loadPg (by kernel_rfl) _ rfl w.heap.size rfl zs (fun W hS => hS.1)) hHeld ?_
        try simp only [List.getElem_toArray]
        try simp only [List.getElem_cons_succ]
        try simp only [List.getElem_cons_zero]
        try simp only [Act.put]
        try simp only [List.setIfInBounds_toArray]
        try simp only [List.set]
        refine wpAnyH_take (i := 1) (v := .agg (pgC zs)) rfl (by kernel_rfl) (by kernel_rfl) (by kernel_rfl) (fun _ _ _ h => h) (yieldsIf_loadPg (by kernel_rfl) _ rfl w.heap.size rfl zs (fun W hS => hS.1)) hHeld ?_
        try simp only [List.getElem_toArray]
        try simp only [List.getElem_cons_succ]
        try simp only [List.getElem_cons_zero]
        try simp only [Act.put]
        try simp only [List.setIfInBounds_toArray]
        try simp only [List.set]
        refine wpAnyH_take (i := 2) (v := .int .u64 k) rfl (by kernel_rfl) (by kernel_rfl) (by kernel_rfl) (fun _ _ _ h => h) (Or.inl ⟨by kernel_rfl, fun u hSw => by (try dsimp only at hSw); go_simp; try with_reducible rfl⟩) hHeld ?_
        try simp only [List.getElem_toArray]
        try simp only [List.getElem_cons_succ]
        try simp only [List.getElem_cons_zero]
        try simp only [Act.put]
        try simp only [List.setIfInBounds_toArray]
        try simp only [List.set]
        refine wpAnyH_ready (rs := [3]) (by kernel_rfl) (by simp) ?_
        refine AllReadyH.cons rfl (fun K hK => ?_) AllReadyH.nil
        go_simp
        go_wp2_with (go_at_call 188; refine (spanOf_any zs k _ h (by omega)).mono ?_; rintro e w' ⟨rfl, hb⟩)
        refine hK.out _ _ (pgKeep hHeld hb) (fun hHeld => ?_)
        clear hK K
        try simp only [Act.put]
        try simp only [List.setIfInBounds_toArray]
        try simp only [List.set]
        refine wpAnyH_ready (rs := [4]) (by kernel_rfl) (by simp) ?_
        refine AllReadyH.cons rfl (fun K hK => ?_) AllReadyH.nil
        go_simp
        go_wp2_with (go_at_call 213; refine (isSpanWrong_any zs _ _ _ h (nb_lt h _) (nb_lt h _)).mono ?_; rintro e w' ⟨rfl, hb⟩; rw [HS.out])
        refine hK.out _ _ (pgKeep hHeld hb) (fun hHeld => ?_)
        clear hK K
        try simp only [Act.put]
        try simp only [List.setIfInBounds_toArray]
        try simp only [List.set]
        refine wpAnyH_done (by kernel_rfl) ?_ _
        obtain ⟨hA, g⟩ := hHeld
        go_wp2_with fail
        go_ret
        exact ⟨by rw [HF.out]; rfl, g⟩
    · have e : k = n := by omega
      subst e
      have H1 : Hid (faultP zs = if (comB zs k || endB zs) = true then 8 else 0) := by show _ = _; rw [H0.out, if_neg (by rw [HW.out]; simp)]
      have HX : Hid (∀ s, s < nb zs 0 → nb zs (2 + 2 * s) + nb zs (3 + 2 * s) ≤ 64) := fun s hs => wrongB_end _ _ _ (wrgN_at zs k HW.out s (by rw [HN.out]; exact hs))
      have hc0 : nb zs 0 ≤ 16 := by rw [← HN.out]; omega
      have HC0 : Hid (nb zs 0 ≤ 16) := hc0
      clear hc0
      go_wp2_with (refine wpList_loadPg rfl _ rfl _ rfl zs (by assumption) ?_)
      refine (hasCommon_any zs _ h HC0.out HX.out).mono ?_
      rintro e w5 ⟨rfl, g5⟩
      rw [← HN.out]
      have hA := hA.grown g5
      have g : Below w.heap.size w w5 := g.trans (g5.mono g.size)
      clear g5
      cases hcom : comB zs k
      · have H2 : Hid (faultP zs = if endB zs = true then 8 else 0) := by show _ = _; rw [H1.out, hcom, Bool.false_or]
        clear hcom
        go_wp2_with (refine wpList_loadPgW (by kernel_rfl) _ rfl _ rfl zs (by assumption) ?_)
        refine (endsEmpty_any zs _ h HC0.out).mono ?_
        rintro e w6 ⟨rfl, g6⟩
        have g : Below w.heap.size w w6 := g.trans (g6.mono g.size)
        clear g6
        cases hen : endB zs
        · have HF : Hid (faultP zs = 0) := by show _ = _; rw [H2.out, hen]; rfl
          clear hen
          go_wp2_with fail
          go_ret
          exact ⟨by rw [HF.out]; rfl, g⟩
        · have HF : Hid (faultP zs = 8) := by show _ = _; rw [H2.out, hen]; rfl
          clear hen
          go_wp2_with fail
          go_ret
          exact ⟨by rw [HF.out]; rfl, g⟩
      · have HF : Hid (faultP zs = 8) := by show _ = _; rw [H1.out, hcom]; rfl
        clear hcom
        go_wp2_with fail
        go_ret
        exact ⟨by rw [HF.out]; rfl, g⟩

end Go.Proofs.Yteebbaleejbodaa
