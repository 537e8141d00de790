/-
  What NoteChange tells (plain facts).
-/
import Derived.Test.YtmboclfgldgefaaNCOtx
import Derived.Test.YtmboclfgldgefaaNCIxt
import Derived.Test.YtmboclfgldgefaaNCTxm

namespace Go.Proofs.Ytmboclfgldgefaa
open Go.RowKit Go.Maps
set_option linter.unusedVariables false
set_option maxRecDepth 20000

theorem txs_sound {xs : List TxV} (h : txsQ xs = 0) : xs.length ≤ 4 ∧ (∀ i, i < xs.length → txAt xs i = 0) ∧ apB xs = true ∧ cntU xs ≤ 12 := by
  unfold txsQ at h
  split at h
  · cases h
  · rename_i h4
    split at h
    · rename_i hf
      split at h
      · rename_i ha
        split at h
        · cases h
        · rename_i hc
          exact ⟨by omega, rng_zero hf, ha, by omega⟩
      · cases h
    · rename_i hf
      exact absurd h hf
theorem inW_lo {t lo hi : Int} (h : inW t lo hi = true) : lo ≤ t ∧ t ≤ hi := by
  unfold inW at h
  simpa using h
theorem tx_id {xs : List TxV} {i : Nat} {x : TxV} (hx : xs[i]? = some x) (h : txAt xs i = 0) : 1 ≤ x.id ∧ x.id ≤ 99 := by
  unfold txAt at h
  rw [List.getD_eq_getElem?_getD, hx] at h
  simp only [Option.getD_some] at h
  split at h
  · rename_i h1
    exact inW_lo h1
  · cases h
theorem tx_few {x : TxV} (h : alnQ x = 0) : x.m.length ≤ 8 ∧ x.l.length ≤ 12 := by
  unfold alnQ at h
  split at h
  · unfold mlQ at h
    split at h
    · cases h
    · rename_i h1
      unfold manyB at h1
      simp at h1
      omega
  · rename_i h1
    exact absurd h h1
theorem lkr_zero : ∀ {xs : List TxV} {k : K2}, (∀ x ∈ xs, 1 ≤ x.id) → lkr xs k = 0 → ∀ x ∈ xs, hasK x.l k = false
  | [], _, _, _, x, hx => by simp at hx
  | y :: ys, k, h1, h2, x, hx => by
    unfold lkr at h2
    split at h2
    · have := h1 y (List.mem_cons_self ..)
      omega
    · rename_i hn
      rcases List.mem_cons.1 hx with rfl | hx
      · simpa using hn
      · exact lkr_zero (fun z hz => h1 z (List.mem_cons_of_mem _ hz)) h2 x hx
theorem lkr_some : ∀ {xs : List TxV} {k : K2}, lkr xs k ≠ 0 → ∃ x ∈ xs, hasK x.l k = true ∧ x.id = lkr xs k
  | [], _, h => absurd rfl h
  | y :: ys, k, h => by
    unfold lkr at h ⊢
    split
    · rename_i hy
      exact ⟨y, List.mem_cons_self .., hy, rfl⟩
    · rename_i hy
      rw [if_neg hy] at h
      obtain ⟨x, hx, h1, h2⟩ := lkr_some h
      exact ⟨x, List.mem_cons_of_mem _ hx, h1, h2⟩
theorem id_inj {xs : List TxV} (h : ∀ i, i < xs.length → txAt xs i = 0) {x y : TxV} (hx : x ∈ xs) (hy : y ∈ xs) (he : x.id = y.id) : x = y := by
  obtain ⟨i, hi, rfl⟩ := List.mem_iff_getElem.1 hx
  obtain ⟨j, hj, rfl⟩ := List.mem_iff_getElem.1 hy
  by_cases e : i = j
  · subst e; rfl
  · by_cases hl : i < j
    · have := txs_rise h j hj i hl; omega
    · have := txs_rise h i hi j (by omega); omega
def ncK (c : Chg) : K2 := ⟨kT c, kK c⟩
def atI (xs : List TxV) (tx : Int) : Int := ixT (fun i : Int => decide (i = tx)) xs
def ncX (xs : List TxV) (tx : Int) : TxV := xs.getD (atI xs tx).toNat ⟨0, [], [], []⟩
def ncB (xs : List TxV) (tx : Int) (c : Chg) : Bool := decide (cntU xs = 12) || (decide ((ncX xs tx).l.length = 12) && decide (lkr xs (ncK c) = 0))
def ncQ (xs : List TxV) (tx : Int) (c : Chg) : Int :=
  if txsQ xs = 0 then (if atI xs tx < 0 then 4 else if alQ c = 0 then (if lkr xs (ncK c) ≠ 0 ∧ lkr xs (ncK c) ≠ tx then 7 else if ncB xs tx c = true then 2 else 0) else alQ c) else txsQ xs
def ncR (xs : List TxV) (tx : Int) (c : Chg) : List TxV := xs.set (atI xs tx).toNat ⟨(ncX xs tx).id, (ncX xs tx).u ++ [c], (ncX xs tx).m, withL (ncX xs tx).l (ncK c)⟩
def ncL (xs : List TxV) (tx : Int) (c : Chg) : List TxV := if ncQ xs tx c = 0 then ncR xs tx c else []
theorem nc_at {xs : List TxV} {tx : Int} (h : ¬ atI xs tx < 0) : ∃ j : Nat, atI xs tx = (j : Int) ∧ xs[j]? = some (ncX xs tx) ∧ (ncX xs tx).id = tx := by
  obtain ⟨j, x, h1, h2, h3⟩ := ixT_at (p := fun i : Int => decide (i = tx)) (xs := xs) (by unfold atI at h; omega)
  have hx : ncX xs tx = x := by
    unfold ncX atI
    rw [h2, Int.toNat_natCast, List.getD_eq_getElem?_getD, h1]
    rfl
  exact ⟨j, h2, by rw [hx]; exact h1, by rw [hx]; simpa using h3⟩
/-- Whether there are too many, asked in the model's words. -/
theorem nc_cond {xs : List TxV} {tx : Int} {c : Chg} (h : txsQ xs = 0) (ha : ¬ atI xs tx < 0) (hw : ¬ (lkr xs (ncK c) ≠ 0 ∧ lkr xs (ncK c) ≠ tx)) : (decide (12 ≤ cntU xs) || (decide (12 ≤ (ncX xs tx).l.length) && !hasK (ncX xs tx).l (ncK c))) = ncB xs tx c := by
  obtain ⟨h4, hall, hap, hc⟩ := txs_sound h
  obtain ⟨j, h1, h2, h3⟩ := nc_at ha
  have hj : j < xs.length := (List.getElem?_eq_some_iff.1 h2).1
  have hx : xs[j] = ncX xs tx := (List.getElem?_eq_some_iff.1 h2).2
  have hal := (txs_at hj (hall j hj)).2
  rw [hx] at hal
  have hfew := (tx_few hal).2
  have hmem : ncX xs tx ∈ xs := List.mem_of_getElem? h2
  have hids : ∀ x ∈ xs, 1 ≤ x.id := fun x hx => by
    obtain ⟨i, hi, rfl⟩ := List.mem_iff_getElem.1 hx
    exact (tx_id (List.getElem?_eq_getElem hi) (hall i hi)).1
  have hk : (!hasK (ncX xs tx).l (ncK c)) = decide (lkr xs (ncK c) = 0) := by
    by_cases h0 : lkr xs (ncK c) = 0
    · rw [lkr_zero hids h0 _ hmem]
      simp [h0]
    · obtain ⟨x, hx1, hx2, hx3⟩ := lkr_some h0
      have h5 : lkr xs (ncK c) = tx := by
        by_cases h6 : lkr xs (ncK c) = tx
        · exact h6
        · exact absurd ⟨h0, h6⟩ hw
      have h7 : x = ncX xs tx := id_inj hall hx1 hmem (by rw [hx3, h5, h3])
      rw [← h7, hx2]
      simp [h0]
  unfold ncB
  rw [hk]
  have e1 : decide (12 ≤ cntU xs) = decide (cntU xs = 12) := by rw [decide_eq_decide]; omega
  have e2 : decide (12 ≤ (ncX xs tx).l.length) = decide ((ncX xs tx).l.length = 12) := by rw [decide_eq_decide]; omega
  rw [e1, e2]

/-- A block that is a block of transactions. -/
def TxBk (w : World) (g : Nat) : Prop := ∃ cur : Array Value, w.heap[g]? = some (.cells cur 110 (0, 0))
theorem TxBk.of {w : World} {B g n n' c : Nat} {xs : List Value} (h : w.ownsRow B 110 4 (.slice (some ⟨g, 0, none⟩) n c) n' xs) : TxBk w g := by
  obtain ⟨_, ⟨e, _⟩ | ⟨g', cap, cur, e, _, hc, _⟩⟩ := h
  · cases e
  · cases e; exact ⟨cur, hc⟩
theorem TxBk.lt {w : World} {g : Nat} (h : TxBk w g) : g < w.heap.size := by
  obtain ⟨cur, hc⟩ := h
  exact (Array.getElem?_eq_some_iff.1 hc).1
theorem TxBk.block {w w' : World} {g : Nat} (h : TxBk w g) (hb : w'.heap[g]? = w.heap[g]?) : TxBk w' g := by
  obtain ⟨cur, hc⟩ := h
  exact ⟨cur, hb.trans hc⟩
theorem TxBk.ne {w : World} {g : Nat} (h : TxBk w g) {B e k n : Nat} {v : Value} {xs : List Value} (hv : w.ownsRow B e k v n xs) (hne : e ≠ 110) : v.ownBlock ≠ some g := by
  obtain ⟨cur, hc⟩ := h
  exact ownsRow_ne hv hc hne
theorem TxBk.lists {w : World} {g B : Nat} {hs : List TxH} {xs : List TxV} (h : TxBk w g) (hL : LsC B w hs xs) : ∀ (i : Nat) (hh : TxH), hs[i]? = some hh → ∀ q, hh.U.ownBlock = some q ∨ hh.M.ownBlock = some q ∨ hh.L.ownBlock = some q → q ≠ g := by
  intro i hh hi q hq he
  subst he
  obtain ⟨x, _, t⟩ := hL.of hi
  rcases hq with hq | hq | hq
  · exact h.ne t.u (by decide) hq
  · exact h.ne t.m (by decide) hq
  · exact h.ne t.l (by decide) hq
theorem OwZ.low {B T lo hi : Nat} {w w' : World} {a : Option Addr} {xs : List TxV} (h : OwZ B T w a xs) (ht : Turned lo hi w w') (hl : hi ≤ B) : OwZ B T w' a xs := by
  rcases h with h | ⟨b, lo', hi', h1, h2, ⟨h3, h3'⟩, h4⟩
  · exact .inl h
  · refine .inr ⟨b, lo', hi', h1, ⟨fun i x hx => ?_, fun i hi => ?_, h2.out, h2.dis⟩, ⟨h3, h3'⟩, h4⟩
    · obtain ⟨ua, ma, la, uc, mc, lc, c4, hc, t⟩ := h2.c i x hx
      have hil : i < xs.length := (List.getElem?_eq_some_iff.1 hx).1
      exact ⟨ua, ma, la, uc, mc, lc, c4.turned ht (.inr (Nat.le_trans hl h3)), hc, ⟨t.u.turned ht (.inr (Nat.le_trans hl (h4 _ (by omega)).1)), t.m.turned ht (.inr (Nat.le_trans hl (h4 _ (by omega)).1)), t.l.turned ht (.inr (Nat.le_trans hl (h4 _ (by omega)).1))⟩⟩
    · obtain ⟨_, _, _, _, _, _, c4, _⟩ := h2.c i _ (List.getElem?_eq_getElem hi)
      exact (ht.frozen (p := ⟨b, i * 4, none⟩) c4.c0 (.inr (Nat.le_trans hl h3))).trans (h2.f i hi)
theorem OwA.low {B lo hi : Nat} {w w' : World} {a : Option Addr} {xs : List TxV} (h : OwA B w a xs) (ht : Turned lo hi w w') (hl : hi ≤ B) : OwA B w' a xs := (OwZ.low h ht hl).wide (Nat.le_refl _) ht.size
theorem Kp.grown {w w' : World} {o : Option Nat} (h : w.grownBy w' o) : Kp w w' o := ⟨h.size, h.block⟩
theorem Nx.of {w : World} {o o' : Option Nat} (h : o' = o ∨ o' = some w.heap.size) : Nx w o o' := by
  rcases h with h | h
  · exact .inl h
  · exact .inr ⟨_, h, Nat.le_refl _⟩
/-- Two cells of an answer that has a slice, new. -/
structure Nr2 (W : World) (b : Nat) : Prop where
  c0 : W.cell? ⟨b, 0, none⟩ = some (.int .i64 0)
  c1 : W.cell? ⟨b, 1, none⟩ = some (.slice none 0 0)
  f0 : W.frozen? ⟨b, 0, none⟩ = false
  f1 : W.frozen? ⟨b, 1, none⟩ = false
theorem Nr2.lt {W : World} {b : Nat} (h : Nr2 W b) : b < W.heap.size := World.block_lt_of_cell? W _ h.c0
theorem Nr2.below {W W' : World} {b B : Nat} (h : Nr2 W b) (hb : Below B W W') (hl : b < B) : Nr2 W' b :=
  ⟨(hb.cell (p := ⟨b, 0, none⟩) hl).trans h.c0, (hb.cell (p := ⟨b, 1, none⟩) hl).trans h.c1, (hb.frozen (p := ⟨b, 0, none⟩) hl).trans h.f0, (hb.frozen (p := ⟨b, 1, none⟩) hl).trans h.f1⟩
def NcPost (Q : Int) (L : List TxV) (w : World) (e : Ending) (w' : World) : Prop := ∃ a' c', e = .returned (.agg #[.int .i64 Q, .slice a' L.length c']) ∧ Below w.heap.size w w' ∧ OwA w.heap.size w' a' L
theorem nc_bad {w W : World} {q : Int} (g : Below w.heap.size w W) : NcPost q [] w (.returned (.agg #[.int .i64 q, .slice none 0 0])) W := ⟨none, 0, rfl, g, .inl rfl⟩
theorem TxBk.set {w : World} {g : Nat} (h : TxBk w g) (p : Nat) (v : Value) : TxBk (w.setCell ⟨g, p, none⟩ v) g := by
  obtain ⟨cur, hc⟩ := h
  have hl := (Array.getElem?_eq_some_iff.1 hc).1
  refine ⟨cur.setIfInBounds p v, ?_⟩
  show (w.heap.modify g _)[g]? = _
  rw [Array.getElem?_modify, if_pos rfl, hc]
  simp
theorem LsC.setBk {B : Nat} {w w' : World} {hs : List TxH} {xs : List TxV} {g : Nat} (h : LsC B w hs xs) (ht : Turned g (g + 1) w w') (hG : TxBk w g) : LsC B w' hs xs :=
  h.keep (fun i hh hi q hq => by
    obtain ⟨x, _, t⟩ := h.of hi
    exact ht.block q (t.lo q hq).2 (by have := hG.lists h i hh hi q hq; omega))

end Go.Proofs.Ytmboclfgldgefaa
