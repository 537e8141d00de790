/-
  Transactions made one's own: toInt64S, toKeyS, toTx, toTxS.
-/
import Derived.Test.YtpjlpnaamkbicaaGreatDoorCKTxa

namespace Go.Proofs.YtpjlpnaamkbicaaGreatDoor
open Go.RowKit Go.Maps
set_option linter.unusedVariables false
set_option maxRecDepth 20000

theorem infoI' : (Tryz.prog.info? 2).map (fun i => (i.zero, i.size, i.bytes)) = some (some (.int .i64 0), 1, 8) := by kernel_rfl
theorem infoI : ∃ i, Tryz.prog.info? 2 = some i ∧ i.zero = some (.int .i64 0) ∧ i.size = 1 ∧ i.bytes = 8 := by
  have h := infoI'
  cases hi : Tryz.prog.info? 2 with
  | none => rw [hi] at h; simp at h
  | some i => rw [hi] at h; simp at h; exact ⟨i, rfl, h.1, h.2.1, h.2.2⟩
theorem infoK' : (Tryz.prog.info? 97).map (fun i => (i.zero, i.size, i.bytes)) = some (some (.agg #[.int .i64 0, .int .i64 0]), 2, 16) := by kernel_rfl
theorem infoK : ∃ i, Tryz.prog.info? 97 = some i ∧ i.zero = some (.agg #[.int .i64 0, .int .i64 0]) ∧ i.size = 2 ∧ i.bytes = 16 := by
  have h := infoK'
  cases hi : Tryz.prog.info? 97 with
  | none => rw [hi] at h; simp at h
  | some i => rw [hi] at h; simp at h; exact ⟨i, rfl, h.1, h.2.1, h.2.2⟩
theorem infoT' : (Tryz.prog.info? 65).map (fun i => (i.zero, i.size, i.bytes)) = some (some (.agg #[.int .i64 0, .slice none 0 0, .slice none 0 0, .slice none 0 0]), 4, 80) := by kernel_rfl
theorem infoT : ∃ i, Tryz.prog.info? 65 = some i ∧ i.zero = some (.agg #[.int .i64 0, .slice none 0 0, .slice none 0 0, .slice none 0 0]) ∧ i.size = 4 ∧ i.bytes = 80 := by
  have h := infoT'
  cases hi : Tryz.prog.info? 65 with
  | none => rw [hi] at h; simp at h
  | some i => rw [hi] at h; simp at h; exact ⟨i, rfl, h.1, h.2.1, h.2.2⟩

/-- A list of k cells an element that is filled up to j. -/
structure PartE {α : Type} (enc : α → List Value) (k : Nat) (w : World) (g n j : Nat) (xs : List α) : Prop where
  c : ∀ i x, i < j → xs[i]? = some x → ∀ t u, (enc x)[t]? = some u → w.cell? ⟨g, i * k + t, none⟩ = some u
  e : ∀ o, o < n * k → ∃ v, w.cell? ⟨g, o, none⟩ = some v
  f : ∀ o, w.frozen? ⟨g, o, none⟩ = false
section
variable {α : Type} {enc : α → List Value} {k : Nat} {w w' : World} {g n j : Nat} {xs : List α}
theorem PartE.below (h : PartE enc k w g n j xs) (hb : Below w.heap.size w w') (hg : g < w.heap.size) : PartE enc k w' g n j xs :=
  ⟨fun i x hi hx t u hu => (hb.cell (p := ⟨g, _, none⟩) hg).trans (h.c i x hi hx t u hu), fun o ho => by obtain ⟨v, hv⟩ := h.e o ho; exact ⟨v, (hb.cell (p := ⟨g, _, none⟩) hg).trans hv⟩, fun o => (hb.frozen (p := ⟨g, _, none⟩) hg).trans (h.f o)⟩
theorem PartE.reads (h : PartE enc k w g n n xs) (hn : xs.length = n) : Rs enc k w (some ⟨g, 0, none⟩) xs :=
  .inr ⟨g, 0, rfl, fun i x hx t u hu => by rw [Nat.zero_add]; exact h.c i x (by rw [← hn]; exact (List.getElem?_eq_some_iff.1 hx).1) hx t u hu⟩
end
theorem PartE.own {α : Type} {enc : α → List Value} {k : Nat} {w : World} {g n lo hi : Nat} {xs : List α} (h : PartE enc k w g n n xs) (hn : xs.length = n) (hl : lo ≤ g) (hh : g < hi) : SlIn enc k lo hi w (some ⟨g, 0, none⟩) xs :=
  .inr ⟨g, 0, rfl, hl, hh, fun i x hx t u hu => ⟨by rw [Nat.zero_add]; exact h.c i x (by rw [← hn]; exact (List.getElem?_eq_some_iff.1 hx).1) hx t u hu, h.f _⟩⟩
theorem PartE.num {w : World} {g n j : Nat} {xs : List Int} {x : Int} (h : PartE inE 1 w g n j xs) (hj : j < n) (hx : xs[j]? = some x) : PartE inE 1 (w.setCell ⟨g, j, none⟩ (.int .i64 x)) g n (j + 1) xs := by
  obtain ⟨v, hv⟩ := h.e j (by omega)
  refine ⟨fun i y hi hy t u hu => ?_, fun o ho => ?_, fun o => by rw [World.frozen?_setCell]; exact h.f o⟩
  · have ht : t = 0 := by
      have := (List.getElem?_eq_some_iff.1 hu).1
      simp [inE] at this; exact this
    subst ht
    by_cases e : i = j
    · subst e
      rw [hx] at hy
      cases hy
      simp [inE] at hu
      subst hu
      simp [go_sem, hv]
    · have := h.c i y (by omega) hy 0 u hu
      simp only [Nat.mul_one, Nat.add_zero] at this ⊢
      rw [cell_off (by omega)]
      exact this
  · by_cases e : o = j
    · subst e; exact ⟨_, by simp [go_sem, hv]; rfl⟩
    · obtain ⟨v2, h2⟩ := h.e o ho
      exact ⟨v2, by rw [cell_off (by omega)]; exact h2⟩

set_option maxHeartbeats 2000000 in
theorem toInt64S_own (a : Option Addr) (xs : List Int) (n c : Nat) (w : World) (hn : xs.length = n) (hm : n ≤ 1048576) (hr : Rs inE 1 w a xs) :
    Calls Tryz.prog 50 #[.slice a n c] w fun e w' => e = .returned (.slice (some ⟨w.heap.size, 0, none⟩) n n) ∧ Below w.heap.size w w' ∧ SlIn inE 1 w.heap.size w'.heap.size w' (some ⟨w.heap.size, 0, none⟩) xs := by
  obtain ⟨i0, hi, hz0, hz1, hz2⟩ := infoI
  have HN : Hid (xs.length = n) := hn
  have HR : Hid (Rs inE 1 w a xs) := hr
  clear hn hr
  go_enter Tryz.func50, Tryz.ntmps50
  go_wp2_with (at_make; refine wpList_make_full _ rfl _ _ 51 rfl w.heap.size 2 i0 (.int .i64 0) 1 Tryz.underlying51 hi hz0 hz1 .i64 .i64 _ _ n rfl rfl rfl rfl ?c1 ?c2 (Nat.le_refl _) ?_)
  case c1 => rw [hz2]; omega
  case c2 => unfold maxLen; omega
  intro w1 hown hg
  have hB : Below w.heap.size w w1 := Below.grown (Below.refl _ _) hg (Nat.le_refl _) (fun k hk => by cases hk)
  have hlt1 : w.heap.size < w1.heap.size := (hown.lt w.heap.size (by simp [Value.ownBlock])).2
  have hP : PartE inE 1 w1 w.heap.size n 0 xs := ⟨fun i r hi => absurd hi (Nat.not_lt_zero _), fun o ho => ⟨_, by rw [hown.cellAt o (by omega)]; exact List.getElem?_eq_getElem (by simpa [madeCells] using ho)⟩, fun o => hown.frozenAt _⟩
  clear hown hg hi hz0 hz1 hz2
  go_wp2_with fail
  go_loopw [4] (fun i wr => ∃ k : Nat, k ≤ n ∧ i = .int .i64 k ∧ Below w.heap.size w wr ∧ PartE inE 1 wr w.heap.size n k xs ∧ w.heap.size < wr.heap.size) (fun i _ => n - (intOf i).toNat)
  case atStart => exact ⟨0, Nat.zero_le _, rfl, hB, hP, hlt1⟩
  case round =>
    obtain ⟨k, hk, rfl, g, hP, hlt⟩ := hrel
    clear hB hlt1
    by_cases hlt2 : k < n
    · obtain ⟨x, hx⟩ : ∃ x, xs[k]? = some x := ⟨_, List.getElem?_eq_getElem (by rw [HN.out]; exact hlt2)⟩
      obtain ⟨b, off, rfl, e0⟩ := (HR.out.below g (Nat.le_refl _)).num hx
      have hkn : (k : Int) < (n : Int) := by omega
      have hP' := hP.num hlt2 hx
      obtain ⟨v0, r0⟩ := hP.e k (by omega)
      have f0 := hP.f k
      clear hP hx
      go_wp2_with fail
      go_roundw
      case rel => exact ⟨k + 1, by omega, by go_num, by go_grown, hP', by simp; omega⟩
      case measure => simp [intOf]; omega
    · have e : k = n := by omega
      subst e
      have hr2 := hP.own HN.out (Nat.le_refl _) hlt
      clear hP
      go_wp2_with fail
      go_ret
      exact ⟨rfl, g, hr2⟩

theorem toInt64S_any (a : Option Addr) (xs : List Int) (n c : Nat) (w : World) (hn : xs.length = n) (hm : n ≤ 1048576) (hr : Rs inE 1 w a xs) :
    Calls Tryz.prog 50 #[.slice a n c] w fun e w' => e = .returned (.slice (some ⟨w.heap.size, 0, none⟩) n n) ∧ Below w.heap.size w w' ∧ Rs inE 1 w' (some ⟨w.heap.size, 0, none⟩) xs :=
  (toInt64S_own a xs n c w hn hm hr).mono fun _ _ h => ⟨h.1, h.2.1, h.2.2.reads⟩

set_option maxHeartbeats 400000 in
theorem toKey_any (x y : Int) (w : World) : Calls Tryz.prog 84 #[.agg #[.int .i64 x, .int .i64 y]] w fun e w' => e = .returned (.agg #[.int .i64 x, .int .i64 y]) ∧ Below w.heap.size w w' := by
  go_enter Tryz.func84, Tryz.ntmps84
  go_wp2
  go_returns
  exact ⟨rfl, by go_grown⟩
theorem PartE.key {w : World} {g n j : Nat} {xs : List K2} {x : K2} (h : PartE kyE 2 w g n j xs) (hj : j < n) (hx : xs[j]? = some x) : PartE kyE 2 ((w.setCell ⟨g, j * 2, none⟩ (.int .i64 x.x)).setCell ⟨g, j * 2 + 1, none⟩ (.int .i64 x.y)) g n (j + 1) xs := by
  obtain ⟨v, hv⟩ := h.e (j * 2) (by omega)
  obtain ⟨v', hv'⟩ := h.e (j * 2 + 1) (by omega)
  have q0 : ((w.setCell ⟨g, j * 2, none⟩ (.int .i64 x.x)).setCell ⟨g, j * 2 + 1, none⟩ (.int .i64 x.y)).cell? ⟨g, j * 2, none⟩ = some (.int .i64 x.x) := by simp [go_sem, hv]
  have q1 : ((w.setCell ⟨g, j * 2, none⟩ (.int .i64 x.x)).setCell ⟨g, j * 2 + 1, none⟩ (.int .i64 x.y)).cell? ⟨g, j * 2 + 1, none⟩ = some (.int .i64 x.y) := by simp [go_sem, hv']
  have q2 : ∀ o, o ≠ j * 2 → o ≠ j * 2 + 1 → ((w.setCell ⟨g, j * 2, none⟩ (.int .i64 x.x)).setCell ⟨g, j * 2 + 1, none⟩ (.int .i64 x.y)).cell? ⟨g, o, none⟩ = w.cell? ⟨g, o, none⟩ := fun o h1 h2 => by
    rw [cell_off (by omega), cell_off (by omega)]
  refine ⟨fun i y hi hy t u hu => ?_, fun o ho => ?_, fun o => by rw [World.frozen?_setCell, World.frozen?_setCell]; exact h.f o⟩
  · have ht : t < 2 := by
      have := (List.getElem?_eq_some_iff.1 hu).1
      simpa [kyE] using this
    by_cases e : i = j
    · subst e
      rw [hx] at hy
      cases hy
      have : t = 0 ∨ t = 1 := by omega
      rcases this with rfl | rfl
      · simp [kyE] at hu; subst hu; exact q0
      · simp [kyE] at hu; subst hu; exact q1
    · rw [q2 _ (by omega) (by omega)]
      exact h.c i y (by omega) hy t u hu
  · by_cases e : o = j * 2
    · subst e; exact ⟨_, q0⟩
    · by_cases e1 : o = j * 2 + 1
      · subst e1; exact ⟨_, q1⟩
      · rw [q2 o e e1]; exact h.e o ho

set_option maxHeartbeats 2000000 in
theorem toKeyS_own (a : Option Addr) (xs : List K2) (n c : Nat) (w : World) (hn : xs.length = n) (hm : n ≤ 1048576) (hr : Rs kyE 2 w a xs) :
    Calls Tryz.prog 51 #[.slice a n c] w fun e w' => e = .returned (.slice (some ⟨w.heap.size, 0, none⟩) n n) ∧ Below w.heap.size w w' ∧ SlIn kyE 2 w.heap.size w'.heap.size w' (some ⟨w.heap.size, 0, none⟩) xs := by
  obtain ⟨i0, hi, hz0, hz1, hz2⟩ := infoK
  have HN : Hid (xs.length = n) := hn
  have HR : Hid (Rs kyE 2 w a xs) := hr
  clear hn hr
  go_enter Tryz.func51, Tryz.ntmps51
  go_wp2_with (at_make; refine wpList_make_full _ rfl _ _ 63 rfl w.heap.size 97 i0 (.agg #[.int .i64 0, .int .i64 0]) 2 Tryz.underlying63 hi hz0 hz1 .i64 .i64 _ _ n rfl rfl rfl rfl ?c1 ?c2 (Nat.le_refl _) ?_)
  case c1 => rw [hz2]; omega
  case c2 => unfold maxLen; omega
  intro w1 hown hg
  have hB : Below w.heap.size w w1 := Below.grown (Below.refl _ _) hg (Nat.le_refl _) (fun k hk => by cases hk)
  have hlt1 : w.heap.size < w1.heap.size := (hown.lt w.heap.size (by simp [Value.ownBlock])).2
  have hP : PartE kyE 2 w1 w.heap.size n 0 xs := ⟨fun i r hi => absurd hi (Nat.not_lt_zero _), fun o ho => ⟨_, by rw [hown.cellAt o (by omega)]; exact List.getElem?_eq_getElem (by simpa [madeCells] using ho)⟩, fun o => hown.frozenAt _⟩
  clear hown hg hi hz0 hz1 hz2
  go_wp2_with fail
  go_loopw [4] (fun i wr => ∃ k : Nat, k ≤ n ∧ i = .int .i64 k ∧ Below w.heap.size w wr ∧ PartE kyE 2 wr w.heap.size n k xs ∧ w.heap.size < wr.heap.size) (fun i _ => n - (intOf i).toNat)
  case atStart => exact ⟨0, Nat.zero_le _, rfl, hB, hP, hlt1⟩
  case round =>
    obtain ⟨k, hk, rfl, g, hP, hlt⟩ := hrel
    clear hB hlt1
    by_cases hlt2 : k < n
    · obtain ⟨x, hx⟩ : ∃ x, xs[k]? = some x := ⟨_, List.getElem?_eq_getElem (by rw [HN.out]; exact hlt2)⟩
      obtain ⟨b, off, rfl, e0, e1⟩ := (HR.out.below g (Nat.le_refl _)).key hx
      have hkn : (k : Int) < (n : Int) := by omega
      have HX : Hid (xs[k]? = some x) := hx
      clear hx
      obtain ⟨p, q⟩ := x
      dsimp only at e0 e1
      go_wp2_with fail
      refine (toKey_any p q _).mono ?_
      rintro e w' ⟨rfl, g'⟩
      have hP := hP.below g' hlt
      have g2 : Below w.heap.size w w' := g.trans (g'.mono g.size)
      have hlt' : w.heap.size < w'.heap.size := by have := g'.size; omega
      have hP' := hP.key hlt2 HX.out
      obtain ⟨v0, r0⟩ := hP.e (k * 2) (by omega)
      obtain ⟨v1, r1⟩ := hP.e (k * 2 + 1) (by omega)
      have f0 := hP.f (k * 2)
      have f1 := hP.f (k * 2 + 1)
      clear g g' hP e0 e1 HX
      go_wp2_with fail
      go_roundw
      case rel => exact ⟨k + 1, by omega, by go_num, by go_grown, hP', by simp; omega⟩
      case measure => simp [intOf]; omega
    · have e : k = n := by omega
      subst e
      have hr2 := hP.own HN.out (Nat.le_refl _) hlt
      clear hP
      go_wp2_with fail
      go_ret
      exact ⟨rfl, g, hr2⟩

theorem toKeyS_any (a : Option Addr) (xs : List K2) (n c : Nat) (w : World) (hn : xs.length = n) (hm : n ≤ 1048576) (hr : Rs kyE 2 w a xs) :
    Calls Tryz.prog 51 #[.slice a n c] w fun e w' => e = .returned (.slice (some ⟨w.heap.size, 0, none⟩) n n) ∧ Below w.heap.size w w' ∧ Rs kyE 2 w' (some ⟨w.heap.size, 0, none⟩) xs :=
  (toKeyS_own a xs n c w hn hm hr).mono fun _ _ h => ⟨h.1, h.2.1, h.2.2.reads⟩

/-- A transaction of one's own, as a value. -/
structure TxO (w : World) (x : TxV) (ua ma la : Option Addr) : Prop where
  u : Rs chE 10 w ua x.u
  m : Rs inE 1 w ma x.m
  l : Rs kyE 2 w la x.l
theorem TxO.below {w w' : World} {x : TxV} {ua ma la : Option Addr} (h : TxO w x ua ma la) (hb : Below w.heap.size w w') : TxO w' x ua ma la :=
  ⟨h.u.below hb (Nat.le_refl _), h.m.below hb (Nat.le_refl _), h.l.below hb (Nat.le_refl _)⟩
theorem Rs.turned {α : Type} {enc : α → List Value} {k : Nat} {w w' : World} {a : Option Addr} {xs : List α} {b lo hi : Nat} (h : Rs enc k w a xs) (ha : ∀ p, a = some p → p.block = b) (ht : Turned lo hi w w') (hd : b < lo ∨ hi ≤ b) : Rs enc k w' a xs := by
  rcases h with h | ⟨b', off, e, hc⟩
  · exact .inl h
  · have hb' : b' = b := ha _ e
    subst hb'
    exact .inr ⟨b', off, e, fun i x hx j u hu => ht.cell (p := ⟨b', _, none⟩) (hc i x hx j u hu) hd⟩

/-- The three lists of a transaction, each in blocks of its own. -/
structure TxI (w : World) (x : TxV) (ua ma la : Option Addr) (u0 u1 m0 m1 l0 l1 : Nat) : Prop where
  u : SlIn chE 10 u0 u1 w ua x.u
  m : SlIn inE 1 m0 m1 w ma x.m
  l : SlIn kyE 2 l0 l1 w la x.l
theorem TxI.below {w w' : World} {x : TxV} {ua ma la : Option Addr} {u0 u1 m0 m1 l0 l1 : Nat} (h : TxI w x ua ma la u0 u1 m0 m1 l0 l1) (hb : Below w.heap.size w w') : TxI w' x ua ma la u0 u1 m0 m1 l0 l1 :=
  ⟨h.u.below hb, h.m.below hb, h.l.below hb⟩
theorem TxI.out {w : World} {x : TxV} {ua ma la : Option Addr} {u0 u1 m0 m1 l0 l1 : Nat} (h : TxI w x ua ma la u0 u1 m0 m1 l0 l1) : TxO w x ua ma la := ⟨h.u.reads, h.m.reads, h.l.reads⟩

set_option maxHeartbeats 4000000 in
theorem toTx_own (id : Int) (ua : Option Addr) (us : List Chg) (un uc : Nat) (ma : Option Addr) (ms : List Int) (mn mc : Nat) (la : Option Addr) (ls : List K2) (ln lc : Nat) (w : World) (hu : us.length = un) (hun : un ≤ 1048576) (hru : Rs chE 10 w ua us) (hmn : ms.length = mn) (hmm : mn ≤ 1048576) (hrm : Rs inE 1 w ma ms) (hln : ls.length = ln) (hlm : ln ≤ 1048576) (hrl : Rs kyE 2 w la ls) :
    Calls Tryz.prog 23 #[.agg #[.int .i64 id, .slice ua un uc, .slice ma mn mc, .slice la ln lc]] w fun e w' => ∃ u' m' l' e1 e2 e3, e = .returned (.agg #[.int .i64 id, .slice (some ⟨u', 0, none⟩) un un, .slice (some ⟨m', 0, none⟩) mn mn, .slice (some ⟨l', 0, none⟩) ln ln]) ∧ Below w.heap.size w w' ∧ TxI w' ⟨id, us, ms, ls⟩ (some ⟨u', 0, none⟩) (some ⟨m', 0, none⟩) (some ⟨l', 0, none⟩) u' e1 m' e2 l' e3 ∧ w.heap.size ≤ u' ∧ u' ≤ e1 ∧ e1 ≤ m' ∧ m' ≤ e2 ∧ e2 ≤ l' ∧ l' ≤ e3 ∧ e3 ≤ w'.heap.size := by
  have HU := fun W hW => toChangeS_any ua us un uc W hu hun (hru.below (hW : Below w.heap.size w W) (Nat.le_refl _))
  have HM := fun W hW => toInt64S_own ma ms mn mc W hmn hmm (hrm.below (hW : Below w.heap.size w W) (Nat.le_refl _))
  have HL := fun W hW => toKeyS_own la ls ln lc W hln hlm (hrl.below (hW : Below w.heap.size w W) (Nat.le_refl _))
  clear hu hru hmn hrm hln hrl
  go_enter Tryz.func23, Tryz.ntmps23
  go_upto_region 3 with (fail)
  generalize hY : World.alloc _ _ = Y
  have g : Below w.heap.size w Y := by rw [← hY]; go_grown
  have Z1 : T4 Y w.heap.size id ua un uc ma mn mc la ln lc := by rw [← hY]; exact ⟨by simp [go_sem], by simp [go_sem], by simp [go_sem], by simp [go_sem]⟩
  have Z2 : T4 Y (w.heap.size + 1) 0 none 0 0 none 0 0 none 0 0 := by rw [← hY]; exact ⟨by simp [go_sem], by simp [go_sem], by simp [go_sem], by simp [go_sem]⟩
  have Z3 : T4 Y (w.heap.size + 2) id none 0 0 none 0 0 none 0 0 := by rw [← hY]; exact ⟨by simp [go_sem], by simp [go_sem], by simp [go_sem], by simp [go_sem]⟩
  have F2 : ∀ c, Y.frozen? ⟨w.heap.size + 1, c, none⟩ = false := by intro c; rw [← hY]; simp [go_sem]
  have F3 : ∀ c, Y.frozen? ⟨w.heap.size + 2, c, none⟩ = false := by intro c; rw [← hY]; simp [go_sem]
  have hYs : Y.heap.size = w.heap.size + 3 := by rw [← hY]; simp
  clear hY
  obtain ⟨b1, hb1⟩ : ∃ b, b = w.heap.size := ⟨_, rfl⟩
  obtain ⟨b2, hb2⟩ : ∃ b, b = w.heap.size + 1 := ⟨_, rfl⟩
  obtain ⟨b3, hb3⟩ : ∃ b, b = w.heap.size + 2 := ⟨_, rfl⟩
  rw [← hb2] at Z2 F2
  rw [← hb3] at Z3 F3
  have h2 : w.heap.size ≤ b2 := by omega
  have h3 : w.heap.size ≤ b3 := by omega
  have n13 : b1 ≠ b3 := by omega
  have n31 : b3 ≠ b1 := by omega
  have n23 : b2 ≠ b3 := by omega
  have n32 : b3 ≠ b2 := by omega
  have l3 : b3 < Y.heap.size := by omega
  have l2 : b2 < Y.heap.size := by omega
  have d13 : b1 < b3 ∨ b3 + 1 ≤ b1 := by omega
  have d23 : b2 < b3 ∨ b3 + 1 ≤ b2 := by omega
  have hws : w.heap.size ≤ Y.heap.size := g.size
  try simp only [Nat.add_assoc, Nat.reduceAdd]
  rw [← hb3, ← hb2]
  rw [← hb1] at Z1
  simp only [← hb1]
  have HB1 : Hid (b1 = w.heap.size) := hb1
  clear hb1 hb2 hb3 hYs
  have l1 := Z1.lt
  obtain ⟨c0, c1, c2, c3⟩ := Z1
  have HUy := HU Y g
  go_wp2_with fail
  refine HUy.mono ?_
  rintro e W1 ⟨rfl, g1, o1⟩
  clear HUy HU
  have Z1 : T4 W1 b1 id ua un uc ma mn mc la ln lc := T4.below (w := Y) ⟨c0, c1, c2, c3⟩ g1 l1
  have Z2 := Z2.below g1 l2
  have Z3 := Z3.below g1 l3
  have F2 : ∀ c, W1.frozen? ⟨b2, c, none⟩ = false := fun c => (g1.frozen (p := ⟨b2, c, none⟩) l2).trans (F2 c)
  have F3 : ∀ c, W1.frozen? ⟨b3, c, none⟩ = false := fun c => (g1.frozen (p := ⟨b3, c, none⟩) l3).trans (F3 c)
  have r1 := o1
  have q1 : Y.heap.size ≤ W1.heap.size := g1.size
  obtain ⟨e1, he1⟩ : ∃ e1, e1 = W1.heap.size := ⟨_, rfl⟩
  rw [← he1] at r1 q1
  have p1 : e1 ≤ W1.heap.size := by omega
  clear he1
  have hu' : w.heap.size ≤ Y.heap.size := hws
  have du : b3 + 1 ≤ Y.heap.size := l3
  have eu : b2 + 1 ≤ Y.heap.size := l2
  have g := g.trans (g1.mono g.size)
  have l3 : b3 < W1.heap.size := Nat.lt_of_lt_of_le l3 g1.size
  have l2 : b2 < W1.heap.size := Nat.lt_of_lt_of_le l2 g1.size
  clear c0 c1 c2 c3 g1 l1 hws o1
  generalize Y.heap.size = u' at r1 hu' du eu q1 ⊢
  obtain ⟨z0, z1, z2, z3⟩ := Z3
  have f1 := F3 1
  go_upto_region 4 with (fail)
  have T : Turned b3 (b3 + 1) W1 (W1.setCell ⟨b3, 1, none⟩ (.slice (some ⟨u', 0, none⟩) un un)) := (Turned.refl _ _ W1).setCell (p := ⟨b3, 1, none⟩) (Nat.le_refl _) (Nat.lt_succ_self _) _
  have Z3 : T4 (W1.setCell ⟨b3, 1, none⟩ (.slice (some ⟨u', 0, none⟩) un un)) b3 id (some ⟨u', 0, none⟩) un un none 0 0 none 0 0 := ⟨by simp [go_sem, z0], by simp [go_sem, z1], by simp [go_sem, z2], by simp [go_sem, z3]⟩
  have F3 : ∀ c, (W1.setCell ⟨b3, 1, none⟩ (.slice (some ⟨u', 0, none⟩) un un)).frozen? ⟨b3, c, none⟩ = false := fun c => by rw [World.frozen?_setCell]; exact F3 c
  have F2 : ∀ c, (W1.setCell ⟨b3, 1, none⟩ (.slice (some ⟨u', 0, none⟩) un un)).frozen? ⟨b2, c, none⟩ = false := fun c => by rw [World.frozen?_setCell]; exact F2 c
  have Z1 : T4 _ b1 id ua un uc ma mn mc la ln lc := ⟨T.cell (p := ⟨b1, 0, none⟩) Z1.c0 d13, T.cell (p := ⟨b1, 1, none⟩) Z1.c1 d13, T.cell (p := ⟨b1, 2, none⟩) Z1.c2 d13, T.cell (p := ⟨b1, 3, none⟩) Z1.c3 d13⟩
  have Z2 : T4 _ b2 0 none 0 0 none 0 0 none 0 0 := ⟨T.cell (p := ⟨b2, 0, none⟩) Z2.c0 d23, T.cell (p := ⟨b2, 1, none⟩) Z2.c1 d23, T.cell (p := ⟨b2, 2, none⟩) Z2.c2 d23, T.cell (p := ⟨b2, 3, none⟩) Z2.c3 d23⟩
  have r1 := r1.turned T (.inr du)
  have g := g.trans (T.toBelow g.size h3)
  have hsz : W1.heap.size = (W1.setCell ⟨b3, 1, none⟩ (.slice (some ⟨u', 0, none⟩) un un)).heap.size := by simp
  rw [hsz] at l2 l3 p1
  clear T z0 z1 z2 z3 f1 hsz
  generalize W1.setCell ⟨b3, 1, none⟩ (.slice (some ⟨u', 0, none⟩) un un) = V1 at Z1 Z2 Z3 F2 F3 r1 g l2 l3 p1 ⊢
  have l1 := Z1.lt
  obtain ⟨c0, c1, c2, c3⟩ := Z1
  have HMy := HM V1 g
  go_wp2_with fail
  refine HMy.mono ?_
  rintro e W2 ⟨rfl, g2, o2⟩
  clear HMy HM
  have Z1 : T4 W2 b1 id ua un uc ma mn mc la ln lc := T4.below (w := V1) ⟨c0, c1, c2, c3⟩ g2 l1
  have Z2 := Z2.below g2 l2
  have Z3 := Z3.below g2 l3
  have F2 : ∀ c, W2.frozen? ⟨b2, c, none⟩ = false := fun c => (g2.frozen (p := ⟨b2, c, none⟩) l2).trans (F2 c)
  have F3 : ∀ c, W2.frozen? ⟨b3, c, none⟩ = false := fun c => (g2.frozen (p := ⟨b3, c, none⟩) l3).trans (F3 c)
  have r1 := r1.below g2
  have q2 : V1.heap.size ≤ W2.heap.size := g2.size
  obtain ⟨e2, he2⟩ : ∃ e2, e2 = W2.heap.size := ⟨_, rfl⟩
  rw [← he2] at o2 q2
  have p2 : e2 ≤ W2.heap.size := by omega
  clear he2
  have hm' : w.heap.size ≤ V1.heap.size := g.size
  have dm : b3 + 1 ≤ V1.heap.size := l3
  have em : b2 + 1 ≤ V1.heap.size := l2
  have g := g.trans (g2.mono g.size)
  have l3 : b3 < W2.heap.size := Nat.lt_of_lt_of_le l3 g2.size
  have l2 : b2 < W2.heap.size := Nat.lt_of_lt_of_le l2 g2.size
  clear c0 c1 c2 c3 g2 l1
  generalize V1.heap.size = m' at o2 hm' dm em p1 q2 ⊢
  obtain ⟨z0, z1, z2, z3⟩ := Z3
  have f1 := F3 2
  go_upto_region 5 with (fail)
  have T : Turned b3 (b3 + 1) W2 (W2.setCell ⟨b3, 2, none⟩ (.slice (some ⟨m', 0, none⟩) mn mn)) := (Turned.refl _ _ W2).setCell (p := ⟨b3, 2, none⟩) (Nat.le_refl _) (Nat.lt_succ_self _) _
  have Z3 : T4 (W2.setCell ⟨b3, 2, none⟩ (.slice (some ⟨m', 0, none⟩) mn mn)) b3 id (some ⟨u', 0, none⟩) un un (some ⟨m', 0, none⟩) mn mn none 0 0 := ⟨by simp [go_sem, z0], by simp [go_sem, z1], by simp [go_sem, z2], by simp [go_sem, z3]⟩
  have F3 : ∀ c, (W2.setCell ⟨b3, 2, none⟩ (.slice (some ⟨m', 0, none⟩) mn mn)).frozen? ⟨b3, c, none⟩ = false := fun c => by rw [World.frozen?_setCell]; exact F3 c
  have F2 : ∀ c, (W2.setCell ⟨b3, 2, none⟩ (.slice (some ⟨m', 0, none⟩) mn mn)).frozen? ⟨b2, c, none⟩ = false := fun c => by rw [World.frozen?_setCell]; exact F2 c
  have Z1 : T4 _ b1 id ua un uc ma mn mc la ln lc := ⟨T.cell (p := ⟨b1, 0, none⟩) Z1.c0 d13, T.cell (p := ⟨b1, 1, none⟩) Z1.c1 d13, T.cell (p := ⟨b1, 2, none⟩) Z1.c2 d13, T.cell (p := ⟨b1, 3, none⟩) Z1.c3 d13⟩
  have Z2 : T4 _ b2 0 none 0 0 none 0 0 none 0 0 := ⟨T.cell (p := ⟨b2, 0, none⟩) Z2.c0 d23, T.cell (p := ⟨b2, 1, none⟩) Z2.c1 d23, T.cell (p := ⟨b2, 2, none⟩) Z2.c2 d23, T.cell (p := ⟨b2, 3, none⟩) Z2.c3 d23⟩
  have r1 := r1.turned T (.inr du)
  have r2 := o2.turned T (.inr dm)
  have g := g.trans (T.toBelow g.size h3)
  have hsz : W2.heap.size = (W2.setCell ⟨b3, 2, none⟩ (.slice (some ⟨m', 0, none⟩) mn mn)).heap.size := by simp
  rw [hsz] at l2 l3 p2
  clear T z0 z1 z2 z3 f1 hsz o2
  generalize W2.setCell ⟨b3, 2, none⟩ (.slice (some ⟨m', 0, none⟩) mn mn) = V2 at Z1 Z2 Z3 F2 F3 r1 r2 g l2 l3 p2 ⊢
  have l1 := Z1.lt
  obtain ⟨c0, c1, c2, c3⟩ := Z1
  have HLy := HL V2 g
  go_wp2_with fail
  refine HLy.mono ?_
  rintro e W3 ⟨rfl, g3, o3⟩
  clear HLy HL
  have Z2 := Z2.below g3 l2
  have Z3 := Z3.below g3 l3
  have F2 : ∀ c, W3.frozen? ⟨b2, c, none⟩ = false := fun c => (g3.frozen (p := ⟨b2, c, none⟩) l2).trans (F2 c)
  have F3 : ∀ c, W3.frozen? ⟨b3, c, none⟩ = false := fun c => (g3.frozen (p := ⟨b3, c, none⟩) l3).trans (F3 c)
  have r1 := r1.below g3
  have r2 := r2.below g3
  have q3 : V2.heap.size ≤ W3.heap.size := g3.size
  obtain ⟨e3, he3⟩ : ∃ e3, e3 = W3.heap.size := ⟨_, rfl⟩
  rw [← he3] at o3 q3
  have p3 : e3 ≤ W3.heap.size := by omega
  clear he3
  have hl' : w.heap.size ≤ V2.heap.size := g.size
  have dl : b3 + 1 ≤ V2.heap.size := l3
  have el : b2 + 1 ≤ V2.heap.size := l2
  have g := g.trans (g3.mono g.size)
  clear c0 c1 c2 c3 g3 l1 l2 l3
  generalize V2.heap.size = l' at o3 hl' dl el p2 q3 ⊢
  obtain ⟨z0, z1, z2, z3⟩ := Z3
  have f1 := F3 3
  go_upto_region 6 with (fail)
  have T : Turned b3 (b3 + 1) W3 (W3.setCell ⟨b3, 3, none⟩ (.slice (some ⟨l', 0, none⟩) ln ln)) := (Turned.refl _ _ W3).setCell (p := ⟨b3, 3, none⟩) (Nat.le_refl _) (Nat.lt_succ_self _) _
  have Z3 : T4 (W3.setCell ⟨b3, 3, none⟩ (.slice (some ⟨l', 0, none⟩) ln ln)) b3 id (some ⟨u', 0, none⟩) un un (some ⟨m', 0, none⟩) mn mn (some ⟨l', 0, none⟩) ln ln := ⟨by simp [go_sem, z0], by simp [go_sem, z1], by simp [go_sem, z2], by simp [go_sem, z3]⟩
  have F2 : ∀ c, (W3.setCell ⟨b3, 3, none⟩ (.slice (some ⟨l', 0, none⟩) ln ln)).frozen? ⟨b2, c, none⟩ = false := fun c => by rw [World.frozen?_setCell]; exact F2 c
  have Z2 : T4 _ b2 0 none 0 0 none 0 0 none 0 0 := ⟨T.cell (p := ⟨b2, 0, none⟩) Z2.c0 d23, T.cell (p := ⟨b2, 1, none⟩) Z2.c1 d23, T.cell (p := ⟨b2, 2, none⟩) Z2.c2 d23, T.cell (p := ⟨b2, 3, none⟩) Z2.c3 d23⟩
  have r1 := r1.turned T (.inr du)
  have r2 := r2.turned T (.inr dm)
  have r3 := o3.turned T (.inr dl)
  have g := g.trans (T.toBelow g.size h3)
  have hsz : W3.heap.size = (W3.setCell ⟨b3, 3, none⟩ (.slice (some ⟨l', 0, none⟩) ln ln)).heap.size := by simp
  rw [hsz] at p3
  clear T z0 z1 z2 z3 f1 o3 F3 hsz
  generalize W3.setCell ⟨b3, 3, none⟩ (.slice (some ⟨l', 0, none⟩) ln ln) = V3 at Z2 Z3 F2 r1 r2 r3 g p3 ⊢
  obtain ⟨z0, z1, z2, z3⟩ := Z3
  obtain ⟨y0, y1, y2, y3⟩ := Z2
  have f0 := F2 0
  have f1 := F2 1
  have f2 := F2 2
  have f3 := F2 3
  have T : Turned b2 (b2 + 1) V3 ((((V3.setCell ⟨b2, 0, none⟩ (.int .i64 id)).setCell ⟨b2, 1, none⟩ (.slice (some ⟨u', 0, none⟩) un un)).setCell ⟨b2, 2, none⟩ (.slice (some ⟨m', 0, none⟩) mn mn)).setCell ⟨b2, 3, none⟩ (.slice (some ⟨l', 0, none⟩) ln ln)) := ((((Turned.refl _ _ V3).setCell (p := ⟨b2, 0, none⟩) (Nat.le_refl _) (Nat.lt_succ_self _) _).setCell (p := ⟨b2, 1, none⟩) (Nat.le_refl _) (Nat.lt_succ_self _) _).setCell (p := ⟨b2, 2, none⟩) (Nat.le_refl _) (Nat.lt_succ_self _) _).setCell (p := ⟨b2, 3, none⟩) (Nat.le_refl _) (Nat.lt_succ_self _) _
  have HO : Hid (TxI _ ⟨id, us, ms, ls⟩ (some ⟨u', 0, none⟩) (some ⟨m', 0, none⟩) (some ⟨l', 0, none⟩) u' e1 m' e2 l' e3) := ⟨r1.turned T (.inr eu), r2.turned T (.inr em), r3.turned T (.inr el)⟩
  have HG : Hid (Below w.heap.size w _) := g.trans (T.toBelow g.size h2)
  clear T r1 r2 r3 g F2
  go_wp2_with fail
  refine bodyPost_ret (v := .agg #[.int .i64 id, .slice (some ⟨u', 0, none⟩) un un, .slice (some ⟨m', 0, none⟩) mn mn, .slice (some ⟨l', 0, none⟩) ln ln]) (by simp [results, Tryz.results23, go_sem, *]) rfl ?_
  exact ⟨u', m', l', e1, e2, e3, rfl, HG.out, HO.out, hu', q1, p1, q2, p2, q3, by simpa using p3⟩

theorem toTx_any (id : Int) (ua : Option Addr) (us : List Chg) (un uc : Nat) (ma : Option Addr) (ms : List Int) (mn mc : Nat) (la : Option Addr) (ls : List K2) (ln lc : Nat) (w : World) (hu : us.length = un) (hun : un ≤ 1048576) (hru : Rs chE 10 w ua us) (hmn : ms.length = mn) (hmm : mn ≤ 1048576) (hrm : Rs inE 1 w ma ms) (hln : ls.length = ln) (hlm : ln ≤ 1048576) (hrl : Rs kyE 2 w la ls) :
    Calls Tryz.prog 23 #[.agg #[.int .i64 id, .slice ua un uc, .slice ma mn mc, .slice la ln lc]] w fun e w' => ∃ u' m' l', e = .returned (.agg #[.int .i64 id, .slice (some ⟨u', 0, none⟩) un un, .slice (some ⟨m', 0, none⟩) mn mn, .slice (some ⟨l', 0, none⟩) ln ln]) ∧ Below w.heap.size w w' ∧ TxO w' ⟨id, us, ms, ls⟩ (some ⟨u', 0, none⟩) (some ⟨m', 0, none⟩) (some ⟨l', 0, none⟩) ∧ w.heap.size ≤ u' ∧ w.heap.size ≤ m' ∧ w.heap.size ≤ l' :=
  (toTx_own id ua us un uc ma ms mn mc la ls ln lc w hu hun hru hmn hmm hrm hln hlm hrl).mono fun _ _ h => by
    obtain ⟨u', m', l', e1, e2, e3, h1, h2, h3, h4, h5, h6, h7, h8, h9, h10⟩ := h
    exact ⟨u', m', l', h1, h2, h3.out, h4, by omega, by omega⟩

end Go.Proofs.YtpjlpnaamkbicaaGreatDoor
