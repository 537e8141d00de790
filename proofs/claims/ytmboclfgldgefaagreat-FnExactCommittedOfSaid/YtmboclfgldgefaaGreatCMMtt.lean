/-
  Transactions marked, list by list, and looked at again.
-/
import Derived.Test.YtmboclfgldgefaaGreatCMMtx
import Derived.Test.YtmboclfgldgefaaGreatCMMkc

namespace Go.Proofs.YtmboclfgldgefaaGreat
open Go.RowKit Go.Maps
set_option linter.unusedVariables false
set_option maxRecDepth 20000

/-- How many numbers a transaction takes; a transaction of marks. -/
def cX (x : TxV) : Nat := 1 + 10 * x.u.length + x.m.length + 2 * x.l.length
def cS (xs : List TxV) : Nat := (xs.map cX).sum
def mkX (k : Nat) (x : TxV) : TxV := ⟨((k : Nat) : Int), (List.range x.u.length).map (mkC (k + 1)), (List.range x.m.length).map (mkI (k + 1 + 10 * x.u.length)), (List.range x.l.length).map (mkK (k + 1 + 10 * x.u.length + x.m.length))⟩
def mkTs : Nat → List TxV → List TxV
  | _, [] => []
  | k, x :: xs => mkX k x :: mkTs (k + cX x) xs
theorem mkTs_len : ∀ (k : Nat) (xs : List TxV), (mkTs k xs).length = xs.length
  | _, [] => rfl
  | k, x :: xs => by simp [mkTs, mkTs_len _ xs]
theorem mkTs_at : ∀ (xs : List TxV) (k i : Nat) (x : TxV), xs[i]? = some x → (mkTs k xs)[i]? = some (mkX (k + cS (xs.take i)) x)
  | [], _, _, _, h => by simp at h
  | y :: xs, k, 0, x, h => by
    simp at h
    subst h
    simp [mkTs, cS]
  | y :: xs, k, i + 1, x, h => by
    have h1 := mkTs_at xs (k + cX y) i x (by simpa using h)
    have e : cS ((y :: xs).take (i + 1)) = cX y + cS (xs.take i) := by simp [cS]
    rw [e, ← Nat.add_assoc]
    simpa [mkTs] using h1
theorem mkTs_append : ∀ (xs : List TxV) (k : Nat) (x : TxV), mkTs k (xs ++ [x]) = mkTs k xs ++ [mkX (k + cS xs) x]
  | [], k, x => by simp [mkTs, cS]
  | y :: xs, k, x => by
    have h := mkTs_append xs (k + cX y) x
    have e : cS (y :: xs) = cX y + cS xs := by simp [cS]
    rw [e, ← Nat.add_assoc]
    simp [mkTs, h]
def mkTL (k j : Nat) (xs : List TxV) : List TxV := mkTs k (xs.take j) ++ xs.drop j
theorem mkTL_len {k j : Nat} {xs : List TxV} (h : j ≤ xs.length) : (mkTL k j xs).length = xs.length := by simp [mkTL, mkTs_len]; omega
theorem mkTL_at {k j : Nat} {xs : List TxV} {x : TxV} (h : xs[j]? = some x) : (mkTL k j xs)[j]? = some x := by
  have hj : j < xs.length := (List.getElem?_eq_some_iff.1 h).1
  unfold mkTL
  rw [List.getElem?_append_right (by rw [mkTs_len, List.length_take]; omega), mkTs_len, List.length_take, Nat.min_eq_left (by omega), Nat.sub_self, List.getElem?_drop, Nat.add_zero]
  exact h
theorem mkTL_set {k j : Nat} {xs : List TxV} {x : TxV} (h : xs[j]? = some x) : (mkTL k j xs).set j (mkX (k + cS (xs.take j)) x) = mkTL k (j + 1) xs := by
  have hj : j < xs.length := (List.getElem?_eq_some_iff.1 h).1
  have hx : xs[j] = x := (List.getElem?_eq_some_iff.1 h).2
  unfold mkTL
  rw [take_snoc h, mkTs_append, List.set_append_right _ _ (by rw [mkTs_len, List.length_take]; omega), mkTs_len, List.length_take, Nat.min_eq_left (by omega), Nat.sub_self, List.drop_eq_getElem_cons hj, List.set_cons_zero, List.append_assoc]
  rfl
theorem cS_step {xs : List TxV} {j : Nat} {x : TxV} (h : xs[j]? = some x) : cS (xs.take (j + 1)) = cS (xs.take j) + cX x := by
  unfold cS
  rw [take_snoc h]
  simp
theorem cS_le {xs : List TxV} {j : Nat} : cS (xs.take j) ≤ cS xs := by
  unfold cS
  rw [List.map_take]
  have h := congrArg List.sum (List.take_append_drop j (xs.map cX))
  rw [List.sum_append] at h
  omega
/-- A transaction is another one in its place. -/
theorem OwT.put {w w' : World} {b j : Nat} {ys : List TxV} {lo hi : Nat → Nat} {x x' : TxV} (h : OwT w b ys lo hi) (hx : ys[j]? = some x)
    (hJ : ∃ ua ma la uc mc lc, C4 w' b (j * 4) x'.id ua x'.u.length uc ma x'.m.length mc la x'.l.length lc ∧ x'.l.length ≤ lc ∧ TxI w' x' ua ma la (lo (3 * j)) (hi (3 * j)) (lo (3 * j + 1)) (hi (3 * j + 1)) (lo (3 * j + 2)) (hi (3 * j + 2)))
    (hO : ∀ i y, i ≠ j → ys[i]? = some y → ∀ ua uc ma mc la lc, C4 w b (i * 4) y.id ua y.u.length uc ma y.m.length mc la y.l.length lc → TxI w y ua ma la (lo (3 * i)) (hi (3 * i)) (lo (3 * i + 1)) (hi (3 * i + 1)) (lo (3 * i + 2)) (hi (3 * i + 2)) → C4 w' b (i * 4) y.id ua y.u.length uc ma y.m.length mc la y.l.length lc ∧ TxI w' y ua ma la (lo (3 * i)) (hi (3 * i)) (lo (3 * i + 1)) (hi (3 * i + 1)) (lo (3 * i + 2)) (hi (3 * i + 2)))
    (hf : ∀ i, i < ys.length → w'.frozen? ⟨b, i * 4, none⟩ = false) : OwT w' b (ys.set j x') lo hi := by
  refine ⟨fun i y hy => ?_, fun i hi' => hf i (by simpa using hi'), fun p hp => h.out p (by simpa using hp), fun p q h1 h2 => h.dis p q h1 (by simpa using h2)⟩
  by_cases e : i = j
  · subst e
    rw [List.getElem?_set_self (List.getElem?_eq_some_iff.1 hx).1] at hy
    cases hy
    exact hJ
  · rw [List.getElem?_set_ne (fun he => e he.symm)] at hy
    obtain ⟨ua, ma, la, uc, mc, lc, h1, h2, h3⟩ := h.c i y hy
    obtain ⟨k1, k2⟩ := hO i y e hy ua uc ma mc la lc h1 h3
    exact ⟨ua, ma, la, uc, mc, lc, k1, h2, k2⟩
theorem OwT.apart {w : World} {b : Nat} {ys : List TxV} {lo hi : Nat → Nat} (h : OwT w b ys lo hi) {p q : Nat} (hp : p < 3 * ys.length) (hq : q < 3 * ys.length) (hne : p ≠ q) : hi p ≤ lo q ∨ hi q ≤ lo p := by
  by_cases hl : p < q
  · exact h.dis p q hl hq
  · exact (h.dis q p (by omega) hp).symm
/-- One list was turned: all else is as it was. -/
theorem OwT.others {w w' : World} {b p : Nat} {ys : List TxV} {lo hi : Nat → Nat} (h : OwT w b ys lo hi) (hp : p < 3 * ys.length) (ht : Turned (lo p) (hi p) w w') :
    (∀ i y, i ≠ p / 3 → ys[i]? = some y → ∀ ua uc ma mc la lc, C4 w b (i * 4) y.id ua y.u.length uc ma y.m.length mc la y.l.length lc → TxI w y ua ma la (lo (3 * i)) (hi (3 * i)) (lo (3 * i + 1)) (hi (3 * i + 1)) (lo (3 * i + 2)) (hi (3 * i + 2)) → C4 w' b (i * 4) y.id ua y.u.length uc ma y.m.length mc la y.l.length lc ∧ TxI w' y ua ma la (lo (3 * i)) (hi (3 * i)) (lo (3 * i + 1)) (hi (3 * i + 1)) (lo (3 * i + 2)) (hi (3 * i + 2))) ∧ (∀ i, i < ys.length → w'.frozen? ⟨b, i * 4, none⟩ = false) := by
  refine ⟨fun i y hne hy ua uc ma mc la lc h1 h3 => ⟨h1.turned ht (h.out p hp), ?_⟩, fun i hi' => ?_⟩
  · have hil : i < ys.length := (List.getElem?_eq_some_iff.1 hy).1
    have a0 := h.apart (p := 3 * i) (q := p) (by omega) hp (by omega)
    have a1 := h.apart (p := 3 * i + 1) (q := p) (by omega) hp (by omega)
    have a2 := h.apart (p := 3 * i + 2) (q := p) (by omega) hp (by omega)
    exact ⟨h3.u.turned ht a0, h3.m.turned ht a1, h3.l.turned ht a2⟩
  · obtain ⟨_, _, _, _, _, _, h1, _⟩ := h.c i _ (List.getElem?_eq_getElem hi')
    exact (ht.frozen (p := ⟨b, i * 4, none⟩) h1.c0 (h.out p hp)).trans (h.f i hi')
theorem OwT.turnU {w w' : World} {b j : Nat} {ys : List TxV} {lo hi : Nat → Nat} {x : TxV} {ua ma la : Option Addr} {uc mc lc : Nat} (h : OwT w b ys lo hi) (hx : ys[j]? = some x) (hC : C4 w b (j * 4) x.id ua x.u.length uc ma x.m.length mc la x.l.length lc) (hc : x.l.length ≤ lc) (hI : TxI w x ua ma la (lo (3 * j)) (hi (3 * j)) (lo (3 * j + 1)) (hi (3 * j + 1)) (lo (3 * j + 2)) (hi (3 * j + 2)))
    (ht : Turned (lo (3 * j)) (hi (3 * j)) w w') {u' : List Chg} (hl : u'.length = x.u.length) (hu : SlIn chE 10 (lo (3 * j)) (hi (3 * j)) w' ua u') : OwT w' b (ys.set j ⟨x.id, u', x.m, x.l⟩) lo hi := by
  have hj : j < ys.length := (List.getElem?_eq_some_iff.1 hx).1
  obtain ⟨h1, h2⟩ := h.others (p := 3 * j) (by omega) ht
  refine h.put hx ⟨ua, ma, la, uc, mc, lc, by dsimp only; rw [hl]; exact hC.turned ht (h.out _ (by omega)), hc, ⟨hu, hI.m.turned ht (h.apart (by omega) (by omega) (by omega)), hI.l.turned ht (h.apart (by omega) (by omega) (by omega))⟩⟩ (fun i y hne => h1 i y (by omega)) h2
theorem OwT.turnM {w w' : World} {b j : Nat} {ys : List TxV} {lo hi : Nat → Nat} {x : TxV} {ua ma la : Option Addr} {uc mc lc : Nat} (h : OwT w b ys lo hi) (hx : ys[j]? = some x) (hC : C4 w b (j * 4) x.id ua x.u.length uc ma x.m.length mc la x.l.length lc) (hc : x.l.length ≤ lc) (hI : TxI w x ua ma la (lo (3 * j)) (hi (3 * j)) (lo (3 * j + 1)) (hi (3 * j + 1)) (lo (3 * j + 2)) (hi (3 * j + 2)))
    (ht : Turned (lo (3 * j + 1)) (hi (3 * j + 1)) w w') {u' : List Int} (hl : u'.length = x.m.length) (hu : SlIn inE 1 (lo (3 * j + 1)) (hi (3 * j + 1)) w' ma u') : OwT w' b (ys.set j ⟨x.id, x.u, u', x.l⟩) lo hi := by
  have hj : j < ys.length := (List.getElem?_eq_some_iff.1 hx).1
  obtain ⟨h1, h2⟩ := h.others (p := 3 * j + 1) (by omega) ht
  refine h.put hx ⟨ua, ma, la, uc, mc, lc, by dsimp only; rw [hl]; exact hC.turned ht (h.out _ (by omega)), hc, ⟨hI.u.turned ht (h.apart (by omega) (by omega) (by omega)), hu, hI.l.turned ht (h.apart (by omega) (by omega) (by omega))⟩⟩ (fun i y hne => h1 i y (by omega)) h2
theorem OwT.turnL {w w' : World} {b j : Nat} {ys : List TxV} {lo hi : Nat → Nat} {x : TxV} {ua ma la : Option Addr} {uc mc lc : Nat} (h : OwT w b ys lo hi) (hx : ys[j]? = some x) (hC : C4 w b (j * 4) x.id ua x.u.length uc ma x.m.length mc la x.l.length lc) (hc : x.l.length ≤ lc) (hI : TxI w x ua ma la (lo (3 * j)) (hi (3 * j)) (lo (3 * j + 1)) (hi (3 * j + 1)) (lo (3 * j + 2)) (hi (3 * j + 2)))
    (ht : Turned (lo (3 * j + 2)) (hi (3 * j + 2)) w w') {u' : List K2} (hl : u'.length = x.l.length) (hu : SlIn kyE 2 (lo (3 * j + 2)) (hi (3 * j + 2)) w' la u') : OwT w' b (ys.set j ⟨x.id, x.u, x.m, u'⟩) lo hi := by
  have hj : j < ys.length := (List.getElem?_eq_some_iff.1 hx).1
  obtain ⟨h1, h2⟩ := h.others (p := 3 * j + 2) (by omega) ht
  refine h.put hx ⟨ua, ma, la, uc, mc, lc, by dsimp only; rw [hl]; exact hC.turned ht (h.out _ (by omega)), by dsimp only; rw [hl]; exact hc, ⟨hI.u.turned ht (h.apart (by omega) (by omega) (by omega)), hI.m.turned ht (h.apart (by omega) (by omega) (by omega)), hu⟩⟩ (fun i y hne => h1 i y (by omega)) h2
theorem OwT.setId {w : World} {b j : Nat} {ys : List TxV} {lo hi : Nat → Nat} {x : TxV} (h : OwT w b ys lo hi) (hx : ys[j]? = some x) (k : Int) : OwT (w.setCell ⟨b, j * 4, none⟩ (.int .i64 k)) b (ys.set j ⟨k, x.u, x.m, x.l⟩) lo hi := by
  have hj : j < ys.length := (List.getElem?_eq_some_iff.1 hx).1
  have ht : Turned b (b + 1) w (w.setCell ⟨b, j * 4, none⟩ (.int .i64 k)) := (Turned.refl _ _ w).setCell (p := ⟨b, j * 4, none⟩) (Nat.le_refl _) (Nat.lt_succ_self _) _
  have ho : ∀ p, p < 3 * ys.length → hi p ≤ b ∨ b + 1 ≤ lo p := fun p hp => (h.out p hp).symm
  obtain ⟨ua, ma, la, uc, mc, lc, h1, h2, h3⟩ := h.c j x hx
  refine h.put hx ⟨ua, ma, la, uc, mc, lc, ⟨by simp [go_sem, h1.c0], by rw [cell_off (by omega)]; exact h1.c1, by rw [cell_off (by omega)]; exact h1.c2, by rw [cell_off (by omega)]; exact h1.c3⟩, h2, ⟨h3.u.turned ht (ho _ (by omega)), h3.m.turned ht (ho _ (by omega)), h3.l.turned ht (ho _ (by omega))⟩⟩ (fun i y hne hy ua uc ma mc la lc k1 k3 => ?_) (fun i hi' => by rw [World.frozen?_setCell]; exact h.f i hi')
  have hil : i < ys.length := (List.getElem?_eq_some_iff.1 hy).1
  exact ⟨⟨by rw [cell_off (by omega)]; exact k1.c0, by rw [cell_off (by omega)]; exact k1.c1, by rw [cell_off (by omega)]; exact k1.c2, by rw [cell_off (by omega)]; exact k1.c3⟩, ⟨k3.u.turned ht (ho _ (by omega)), k3.m.turned ht (ho _ (by omega)), k3.l.turned ht (ho _ (by omega))⟩⟩
/-- Transactions of one's own, in blocks from B up to T; nobody is anywhere. -/
def OwZ (B T : Nat) (w : World) (a : Option Addr) (xs : List TxV) : Prop := xs = [] ∨ ∃ b lo hi, a = some ⟨b, 0, none⟩ ∧ OwT w b xs lo hi ∧ (B ≤ b ∧ b < T) ∧ ∀ p, p < 3 * xs.length → B ≤ lo p ∧ hi p ≤ T
def OwA (B : Nat) (w : World) (a : Option Addr) (xs : List TxV) : Prop := OwZ B w.heap.size w a xs
theorem OwZ.below {B T : Nat} {w w' : World} {a : Option Addr} {xs : List TxV} (h : OwZ B T w a xs) (hb : Below w.heap.size w w') : OwZ B T w' a xs := by
  rcases h with h | ⟨b, lo, hi, h1, h2, h3⟩
  · exact .inl h
  · exact .inr ⟨b, lo, hi, h1, h2.below hb, h3⟩
theorem OwZ.wide {B B' T T' : Nat} {w : World} {a : Option Addr} {xs : List TxV} (h : OwZ B T w a xs) (hb : B' ≤ B) (ht : T ≤ T') : OwZ B' T' w a xs := by
  rcases h with h | ⟨b, lo, hi, h1, h2, h3, h4⟩
  · exact .inl h
  · exact .inr ⟨b, lo, hi, h1, h2, ⟨Nat.le_trans hb h3.1, Nat.lt_of_lt_of_le h3.2 ht⟩, fun p hp => ⟨Nat.le_trans hb (h4 p hp).1, Nat.le_trans (h4 p hp).2 ht⟩⟩
theorem OwZ.rd {B T : Nat} {w : World} {a : Option Addr} {xs : List TxV} (h : OwZ B T w a xs) : TxRc w a xs := by
  rcases h with h | ⟨b, lo, hi, rfl, h2, _⟩
  · exact .inl h
  · exact h2.rc
theorem OwA.below {B : Nat} {w w' : World} {a : Option Addr} {xs : List TxV} (h : OwA B w a xs) (hb : Below w.heap.size w w') : OwA B w' a xs := (OwZ.below h hb).wide (Nat.le_refl _) hb.size
theorem OwA.mono {B B' : Nat} {w : World} {a : Option Addr} {xs : List TxV} (h : OwA B w a xs) (hb : B' ≤ B) : OwA B' w a xs := OwZ.wide h hb (Nat.le_refl _)
theorem OwA.rd {B : Nat} {w : World} {a : Option Addr} {xs : List TxV} (h : OwA B w a xs) : TxRc w a xs := OwZ.rd h

theorem Turned.wide {lo hi B T : Nat} {w w' : World} (h : Turned lo hi w w') (hB : B ≤ lo) (hT : hi ≤ T) : Turned B T w w' := ⟨h.os, h.tape, h.output, h.size, fun k hk hn => h.block k hk (by omega)⟩
set_option maxHeartbeats 8000000 in
theorem markTxS_own (b : Nat) (lo hi : Nat → Nat) (B : Nat) (xs : List TxV) (n c k : Nat) (w : World) (hn : xs.length = n) (hm : n ≤ 1048576) (hs : ∀ x ∈ xs, TxOk 1048576 x) (hk0 : 1 ≤ k) (hk1 : k + cS xs ≤ 40000000) (hB : B ≤ w.heap.size) (hbB : B ≤ b) (hlB : ∀ p, p < 3 * xs.length → B ≤ lo p) (T : Nat) (hbT : 0 < n → b < T) (hlT : ∀ p, p < 3 * xs.length → hi p ≤ T) (ha : OwT w b xs lo hi) :
    Calls Tryz.prog 31 #[.slice (some ⟨b, 0, none⟩) n c, .int .i64 k] w fun e w' => e = .returned (.int .i64 ((k + cS xs : Nat) : Int)) ∧ Turned B T w w' ∧ OwT w' b (mkTs k xs) lo hi := by
  have HN : Hid (xs.length = n) := hn
  have HS : Hid (∀ x ∈ xs, TxOk 1048576 x) := hs
  have HLB : Hid (∀ p, p < 3 * n → B ≤ lo p) := fun p hp => hlB p (by rw [hn]; exact hp)
  have HLT : Hid (∀ p, p < 3 * n → hi p ≤ T) := fun p hp => hlT p (by rw [hn]; exact hp)
  have HBT : Hid (0 < n → b < T) := hbT
  have HK : Hid (∀ j, k + cS (xs.take j) ≤ 40000000) := fun j => by have := @cS_le xs j; omega
  have HE : Hid (mkTL k 0 xs = xs) := by show _ = _; simp [mkTL, mkTs]
  have ha : OwT w b (mkTL k 0 xs) lo hi := by rw [HE.out]; exact ha
  clear hn hs hlB hlT hbT HE
  go_enter Tryz.func31, Tryz.ntmps31
  go_wp2_with fail
  go_loopw [5, 1] (fun i kk wr => ∃ j : Nat, j ≤ n ∧ i = .int .i64 j ∧ kk = .int .i64 ((k + cS (xs.take j) : Nat) : Int) ∧ Turned B T w wr ∧ OwT wr b (mkTL k j xs) lo hi) (fun i _ _ => n - (intOf i).toNat)
  case atStart => exact ⟨0, Nat.zero_le _, rfl, rfl, Turned.refl _ _ _, ha⟩
  case round =>
    obtain ⟨j, hj, rfl, rfl, g, hO⟩ := hrel
    clear ha
    have hws : B ≤ wr.heap.size := Nat.le_trans hB g.size
    by_cases hlt : j < n
    · obtain ⟨x, hx⟩ := at_ltT (xs := xs) (i := j) (by rw [HN.out]; exact hlt)
      have hxL := mkTL_at (k := k) hx
      have HST : Hid ((mkTL k j xs).set j (mkX (k + cS (xs.take j)) x) = mkTL k (j + 1) xs) := mkTL_set hx
      have HCS : Hid (cS (xs.take (j + 1)) = cS (xs.take j) + cX x) := cS_step hx
      have hkb := HK.out (j + 1)
      rw [HCS.out] at hkb
      obtain ⟨hou, -, hom, hol⟩ := HS.out x (List.mem_of_getElem? hx)
      have hjn : (j : Int) < (n : Int) := by omega
      have hll : (mkTL k j xs).length = n := by rw [mkTL_len (by rw [HN.out]; omega)]; exact HN.out
      clear hx
      generalize mkTL k j xs = ys at hO hxL HST hll
      obtain ⟨k0, hk0'⟩ : ∃ k0 : Nat, k + cS (xs.take j) = k0 := ⟨_, rfl⟩
      have HK0 : Hid (k + cS (xs.take j) = k0) := hk0'
      have hk01 : 1 ≤ k0 := by omega
      rw [hk0'] at HST ⊢
      have hkb : k0 + cX x ≤ 40000000 := by omega
      clear hk0'
      have hxl : j < ys.length := by omega
      obtain ⟨id, us, ms, ls⟩ := x
      have hkX : k0 + 1 + 10 * us.length + ms.length + 2 * ls.length ≤ 40000000 := by
        have : cX ⟨id, us, ms, ls⟩ = 1 + 10 * us.length + ms.length + 2 * ls.length := rfl
        omega
      obtain ⟨k1, hk1'⟩ : ∃ k1 : Nat, k0 + 1 = k1 := ⟨_, rfl⟩
      have HX : Hid (mkX k0 ⟨id, us, ms, ls⟩ = ⟨((k0 : Nat) : Int), (List.range us.length).map (mkC k1), (List.range ms.length).map (mkI (k1 + 10 * us.length)), (List.range ls.length).map (mkK (k1 + 10 * us.length + ms.length))⟩) := by rw [← hk1']; rfl
      have HC1 : Hid (k1 + 10 * us.length + ms.length + 2 * ls.length = k + cS (xs.take (j + 1))) := by
        show _ = _
        rw [HCS.out, ← Nat.add_assoc, HK0.out]
        have : cX ⟨id, us, ms, ls⟩ = 1 + 10 * us.length + ms.length + 2 * ls.length := rfl
        omega
      have e1 : ((k0 : Nat) : Int) + 1 = ((k1 : Nat) : Int) := by omega
      have hk11 : 1 ≤ k1 := by omega
      rw [HX.out] at HST
      clear HCS HX HK0 hkb
      dsimp only at hou hom hol
      -- the number
      obtain ⟨ua, ma, la, uc, mc, lc, hC, hc, hI⟩ := hO.c j _ hxL
      have hf := hO.f j hxl
      have O1 := hO.setId hxL ((k0 : Nat) : Int)
      have g1 : Turned B T w (wr.setCell ⟨b, j * 4, none⟩ (.int .i64 ((k0 : Nat) : Int))) := g.trans (Turned.wide (lo := b) (hi := b + 1) ((Turned.refl _ _ wr).setCell (p := ⟨b, j * 4, none⟩) (Nat.le_refl _) (Nat.lt_succ_self _) _) hbB (HBT.out (by omega)))
      obtain ⟨c0, c1, c2, c3⟩ := hC
      dsimp only at c0 c1 c2 c3
      clear hO hI hc
      go_upto_region 5 with (fail)
      clear c0 c1 c2 c3 hf g
      have hs1 : B ≤ (wr.setCell ⟨b, j * 4, none⟩ (.int .i64 ((k0 : Nat) : Int))).heap.size := Nat.le_trans hB g1.size
      generalize wr.setCell ⟨b, j * 4, none⟩ (.int .i64 ((k0 : Nat) : Int)) = W1 at O1 g1 hs1 ⊢
      -- what it turned
      have hx1 : (ys.set j ⟨((k0 : Nat) : Int), us, ms, ls⟩)[j]? = some ⟨((k0 : Nat) : Int), us, ms, ls⟩ := List.getElem?_set_self hxl
      obtain ⟨ua, ma, la, uc, mc, lc, hC, hc, hI⟩ := O1.c j _ hx1
      have hcon := markChangeS_wide ua (lo (3 * j)) (hi (3 * j)) us us.length uc k1 W1 rfl hou hk11 (by omega) hI.u
      have HU : Hid (∀ V, Turned (lo (3 * j)) (hi (3 * j)) W1 V → SlIn chE 10 (lo (3 * j)) (hi (3 * j)) V ua ((List.range us.length).map (mkC k1)) → OwT V b (ys.set j ⟨((k0 : Nat) : Int), (List.range us.length).map (mkC k1), ms, ls⟩) lo hi) := fun V h1 h2 => by
        have h := O1.turnU hx1 hC hc hI h1 (by simp) h2
        rw [List.set_set] at h
        exact h
      obtain ⟨c0, c1, c2, c3⟩ := hC
      dsimp only at c0 c1 c2 c3
      obtain ⟨un, hun⟩ : ∃ un, us.length = un := ⟨_, rfl⟩
      have HUn : Hid (us.length = un) := hun
      rw [hun] at c1 hcon
      clear hI hc O1 hun
      go_upto_region 6 with (fail)
      go_wp2_with fail
      refine hcon.mono ?_
      rintro e W2 ⟨rfl, t2, s2⟩
      have O2 := HU.out W2 t2 (by rw [HUn.out]; exact s2)
      have g2 : Turned B T w W2 := g1.trans (t2.wide (HLB.out _ (by omega)) (HLT.out _ (by omega)))
      have hs2 : B ≤ W2.heap.size := Nat.le_trans hB g2.size
      rw [HUn.out] at O2 HST HC1 hkX
      clear hcon HU c0 c1 c2 c3 t2 s2 g1 hs1 hx1
      -- its marks
      have hx2 : (ys.set j ⟨((k0 : Nat) : Int), (List.range un).map (mkC k1), ms, ls⟩)[j]? = some ⟨((k0 : Nat) : Int), (List.range un).map (mkC k1), ms, ls⟩ := List.getElem?_set_self hxl
      obtain ⟨k2, hk2'⟩ : ∃ k2 : Nat, k1 + 10 * un = k2 := ⟨_, rfl⟩
      rw [hk2'] at HST HC1 ⊢
      have hkX : k2 + ms.length + 2 * ls.length ≤ 40000000 := by omega
      clear hk2'
      obtain ⟨ua, ma, la, uc, mc, lc, hC, hc, hI⟩ := O2.c j _ hx2
      have hcon := markInt64S_any ma (lo (3 * j + 1)) (hi (3 * j + 1)) ms ms.length mc k2 W2 rfl hom (by omega) hI.m
      have HM : Hid (∀ V, Turned (lo (3 * j + 1)) (hi (3 * j + 1)) W2 V → SlIn inE 1 (lo (3 * j + 1)) (hi (3 * j + 1)) V ma ((List.range ms.length).map (mkI k2)) → OwT V b (ys.set j ⟨((k0 : Nat) : Int), (List.range un).map (mkC k1), (List.range ms.length).map (mkI k2), ls⟩) lo hi) := fun V h1 h2 => by
        have h := O2.turnM hx2 hC hc hI h1 (by simp) h2
        rw [List.set_set] at h
        exact h
      obtain ⟨c0, c1, c2, c3⟩ := hC
      dsimp only at c0 c1 c2 c3
      obtain ⟨mn, hmn⟩ : ∃ mn, ms.length = mn := ⟨_, rfl⟩
      have HMn : Hid (ms.length = mn) := hmn
      rw [hmn] at c2 hcon
      generalize ((List.range un).map (mkC k1)).length = un' at c1
      clear hI hc O2 hmn
      go_wp2_with fail
      refine hcon.mono ?_
      rintro e W3 ⟨rfl, t2, s2⟩
      have O3 := HM.out W3 t2 (by rw [HMn.out]; exact s2)
      have g3 : Turned B T w W3 := g2.trans (t2.wide (HLB.out _ (by omega)) (HLT.out _ (by omega)))
      have hs3 : B ≤ W3.heap.size := Nat.le_trans hB g3.size
      rw [HMn.out] at O3 HST HC1 hkX
      clear hcon HM c0 c1 c2 c3 t2 s2 g2 hs2 hx2
      -- its locks
      have hx3 : (ys.set j ⟨((k0 : Nat) : Int), (List.range un).map (mkC k1), (List.range mn).map (mkI k2), ls⟩)[j]? = some ⟨((k0 : Nat) : Int), (List.range un).map (mkC k1), (List.range mn).map (mkI k2), ls⟩ := List.getElem?_set_self hxl
      obtain ⟨k3, hk3'⟩ : ∃ k3 : Nat, k2 + mn = k3 := ⟨_, rfl⟩
      rw [hk3'] at HST HC1 ⊢
      have hkX : k3 + 2 * ls.length ≤ 40000000 := by omega
      clear hk3'
      obtain ⟨ua, ma, la, uc, mc, lc, hC, hc, hI⟩ := O3.c j _ hx3
      have hcon := markKeyS_any la (lo (3 * j + 2)) (hi (3 * j + 2)) ls ls.length lc k3 W3 rfl hol (by omega) hI.l
      have HL : Hid (∀ V, Turned (lo (3 * j + 2)) (hi (3 * j + 2)) W3 V → SlIn kyE 2 (lo (3 * j + 2)) (hi (3 * j + 2)) V la ((List.range ls.length).map (mkK k3)) → OwT V b (ys.set j ⟨((k0 : Nat) : Int), (List.range un).map (mkC k1), (List.range mn).map (mkI k2), (List.range ls.length).map (mkK k3)⟩) lo hi) := fun V h1 h2 => by
        have h := O3.turnL hx3 hC hc hI h1 (by simp) h2
        rw [List.set_set] at h
        exact h
      obtain ⟨c0, c1, c2, c3⟩ := hC
      dsimp only at c0 c1 c2 c3
      obtain ⟨ln, hln⟩ : ∃ ln, ls.length = ln := ⟨_, rfl⟩
      have HLn : Hid (ls.length = ln) := hln
      rw [hln] at c3 hcon
      generalize ((List.range un).map (mkC k1)).length = un' at c1
      generalize ((List.range mn).map (mkI k2)).length = mn' at c2
      clear hI hc O3 hln
      go_wp2_with fail
      refine hcon.mono ?_
      rintro e W4 ⟨rfl, t2, s2⟩
      have O4 := HL.out W4 t2 (by rw [HLn.out]; exact s2)
      have g4 : Turned B T w W4 := g3.trans (t2.wide (HLB.out _ (by omega)) (HLT.out _ (by omega)))
      rw [HLn.out] at O4 HST HC1 hkX
      rw [HST.out] at O4
      clear hcon HL c0 c1 c2 c3 t2 s2 g3 hs3 hx3 HST
      rw [HC1.out]
      generalize HQ : k + cS (xs.take (j + 1)) = kq
      go_wp2_with fail
      go_roundw
      case rel => exact ⟨j + 1, by omega, by go_num, by rw [HQ], g4, O4⟩
      case measure => simp [intOf]; omega
    · have e : j = n := by omega
      subst e
      have HT : Hid (xs.take j = xs) := List.take_of_length_le (by rw [HN.out]; exact Nat.le_refl _)
      have HE : Hid (mkTL k j xs = mkTs k xs) := by show _ = _; unfold mkTL; rw [HT.out, ← HN.out, List.drop_length, List.append_nil]
      rw [HE.out] at hO
      rw [HT.out]
      obtain ⟨kk, hkk⟩ : ∃ kk, ((k + cS xs : Nat) : Int) = kk := ⟨_, rfl⟩
      have HKK : Hid (((k + cS xs : Nat) : Int) = kk) := hkk
      rw [hkk]
      clear hkk
      go_wp2_with fail
      go_ret
      exact ⟨by rw [HKK.out]; rfl, g, hO⟩

theorem markTxS_to (a : Option Addr) (B T : Nat) (xs : List TxV) (n c k : Nat) (w : World) (hn : xs.length = n) (hm : n ≤ 1048576) (hs : ∀ x ∈ xs, TxOk 1048576 x) (hk0 : 1 ≤ k) (hk1 : k + cS xs ≤ 40000000) (hB : B ≤ w.heap.size) (ha : OwZ B T w a xs) :
    Calls Tryz.prog 31 #[.slice a n c, .int .i64 k] w fun e w' => e = .returned (.int .i64 ((k + cS xs : Nat) : Int)) ∧ Turned B T w w' ∧ OwZ B T w' a (mkTs k xs) := by
  rcases ha with rfl | ⟨b, lo, hi, rfl, ha, hb, hl⟩
  · have e : n = 0 := by rw [← hn]; rfl
    subst e
    have HC : Hid ((k + cS [] : Nat) = k) := rfl
    rw [HC.out]
    go_enter Tryz.func31, Tryz.ntmps31
    go_wp2_with fail
    go_loopw [5, 1] (fun i kk wr => i = .int .i64 0 ∧ kk = .int .i64 k ∧ wr = w) (fun i _ _ => 0)
    case atStart => exact ⟨rfl, rfl, rfl⟩
    case round =>
      obtain ⟨rfl, rfl, rfl⟩ := hrel
      go_wp2_with fail
      go_ret
      exact ⟨rfl, Turned.refl _ _ _, .inl rfl⟩
  · exact (markTxS_own b lo hi B xs n c k w hn hm hs hk0 hk1 hB hb.1 (fun p hp => (hl p hp).1) T (fun _ => hb.2) (fun p hp => (hl p hp).2) ha).mono fun e w' h => ⟨h.1, h.2.1, .inr ⟨b, lo, hi, rfl, h.2.2, hb, fun p hp => hl p (by rw [mkTs_len] at hp; exact hp)⟩⟩
theorem markTxS_any (a : Option Addr) (B : Nat) (xs : List TxV) (n c k : Nat) (w : World) (hn : xs.length = n) (hm : n ≤ 1048576) (hs : ∀ x ∈ xs, TxOk 1048576 x) (hk0 : 1 ≤ k) (hk1 : k + cS xs ≤ 40000000) (hB : B ≤ w.heap.size) (ha : OwA B w a xs) :
    Calls Tryz.prog 31 #[.slice a n c, .int .i64 k] w fun e w' => e = .returned (.int .i64 ((k + cS xs : Nat) : Int)) ∧ Below B w w' ∧ OwA B w' a (mkTs k xs) :=
  (markTxS_to a B w.heap.size xs n c k w hn hm hs hk0 hk1 hB ha).mono fun e w' h => ⟨h.1, h.2.1.toBelow hB (Nat.le_refl _), OwZ.wide h.2.2 (Nat.le_refl _) h.2.1.size⟩

end Go.Proofs.YtmboclfgldgefaaGreat
