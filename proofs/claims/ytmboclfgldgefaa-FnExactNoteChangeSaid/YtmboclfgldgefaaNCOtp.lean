/-
  Copies of one's own: changes, marks, locks, transactions.
-/
import Derived.Test.YtmboclfgldgefaaNCOtx
import Derived.Test.YtmboclfgldgefaaNCFci

namespace Go.Proofs.Ytmboclfgldgefaa
open Go.RowKit Go.Maps
set_option linter.unusedVariables false
set_option maxRecDepth 20000

set_option maxHeartbeats 4000000 in
theorem ownChanges_any (a : Option Addr) (cs : List Chg) (n c : Nat) (w : World) (hn : cs.length = n) (hm : n ≤ 1048576) (hs : ∀ x ∈ cs, x.b.s.size ≤ 1048576 ∧ x.a.s.size ≤ 1048576) (hr : Rs chE 10 w a cs) :
    Calls Try.prog 129 #[.slice a n c] w fun e w' => ∃ a' c', e = .returned (.slice a' n c') ∧ Below w.heap.size w w' ∧ w'.ownsRow w.heap.size 61 10 (.slice a' n c') n (flat chE cs) := by
  have HN : Hid (cs.length = n) := hn
  have HS : Hid (∀ x ∈ cs, x.b.s.size ≤ 1048576 ∧ x.a.s.size ≤ 1048576) := hs
  have HR : Hid (Rs chE 10 w a cs) := hr
  clear hn hs hr
  go_enter Try.func129, Try.ntmps129
  go_upto_region 3 with (fail)
  have ho0 : w.ownsRow w.heap.size 61 10 (.slice none 0 0) (cs.take 0).length (flat chE (cs.take 0)) := ownsRow_nil _ _ _ _
  go_loopw [8, 3] (fun i v wr => ∃ j : Nat, j ≤ n ∧ i = .int .i64 j ∧ Below w.heap.size w wr ∧ wr.ownsRow w.heap.size 61 10 v (cs.take j).length (flat chE (cs.take j))) (fun i _ _ => n - (intOf i).toNat)
  case atStart => exact ⟨0, Nat.zero_le _, rfl, Below.refl _ _, ho0⟩
  case round =>
    clear ho0
    obtain ⟨j, hj, rfl, g, ho⟩ := hrel
    by_cases hlt : j < n
    · obtain ⟨x, hx⟩ : ∃ x, cs[j]? = some x := ⟨_, List.getElem?_eq_getElem (by rw [HN.out]; exact hlt)⟩
      obtain ⟨b, off, rfl⟩ : ∃ b off, a = some ⟨b, off, none⟩ := by
        obtain ⟨b, off, e, _⟩ := HR.out.chg hx
        exact ⟨b, off, e⟩
      have E : ChC wr b (off + j * 10) x := by
        have h1 := HR.out.chgAt hx
        exact h1.below g h1.lt
      have hjn : (j : Int) < (n : Int) := by omega
      obtain ⟨hxb, hxa⟩ := HS.out x (List.mem_of_getElem? hx)
      have HF : Hid (cs.take (j + 1) = cs.take j ++ [x]) := take_snoc hx
      have hol : (cs.take j).length ≤ 1048576 := by rw [List.length_take]; omega
      clear hx
      generalize cs.take j = o at ho HF hol
      obtain ⟨x0, ⟨xt, xk, xv, xst⟩, x5, ⟨yt, yk, yv, yst⟩⟩ := x
      obtain ⟨e0, e1, e2, e3, e4, e5, e6, e7, e8, e9⟩ := E
      dsimp only at e0 e1 e2 e3 e4 e5 e6 e7 e8 e9 hxb hxa
      go_upto_region 5 with (fail)
      generalize hY : World.alloc _ _ = Y7
      have gY : Below wr.heap.size wr Y7 := by rw [← hY]; go_grown
      have Z : ChC Y7 wr.heap.size 0 (⟨x0, ⟨xt, xk, xv, xst⟩, x5, ⟨yt, yk, yv, yst⟩⟩ : Chg) := by rw [← hY]; exact ⟨by simp [go_sem], by simp [go_sem], by simp [go_sem], by simp [go_sem], by simp [go_sem], by simp [go_sem], by simp [go_sem], by simp [go_sem], by simp [go_sem], by simp [go_sem]⟩
      have ho := ownsRow_below ho gY
      have g := g.trans (gY.mono g.size)
      clear hY e0 e1 e2 e3 e4 e5 e6 e7 e8 e9 gY
      generalize wr.heap.size = xb at Z ⊢
      obtain ⟨z0, z1, z2, z3, z4, z5, z6, z7, z8, z9⟩ := Z
      dsimp only at z0 z1 z2 z3 z4 z5 z6 z7 z8 z9
      go_wp2_with fail
      refine (ownChange_any x0 xt xk xv xst x5 yt yk yv yst _ hxb hxa).mono ?_
      rintro e W3 ⟨rfl, g3⟩
      have ho := ownsRow_below ho g3
      have g := g.trans (g3.mono g.size)
      clear g3 z0 z1 z2 z3 z4 z5 z6 z7 z8 z9
      go_wp2_with (at_builtin; refine wpList_append_sl elC _ rfl _ _ rfl w.heap.size _ o [(⟨x0, ⟨xt, xk, xv, xst⟩, x5, ⟨yt, yk, yv, yst⟩⟩ : Chg)] (some ⟨W3.heap.size, 0, none⟩) 1 1 rfl rfl rfl (ownsRow_below ho (by go_grown)) (rs_one (enc := chE) W3 (⟨x0, ⟨xt, xk, xv, xst⟩, x5, ⟨yt, yk, yv, yst⟩⟩ : Chg) 61) (show o.length + 1 ≤ 100000000 by omega) (by have := g.size; simp; omega) ?_)
      intro v' w' ho' hg' hob
      have gAl : Below W3.heap.size W3 (W3.alloc (.cells (chE (⟨x0, ⟨xt, xk, xv, xst⟩, x5, ⟨yt, yk, yv, yst⟩⟩ : Chg)).toArray 61)) := by go_grown
      have g' : Below w.heap.size w w' := Below.grown (g.trans (gAl.mono g.size)) hg' (by have := g.size; have := gAl.size; omega) (fun k e => by have := (ho.lt k e).1; omega)
      have HO : Hid (w'.ownsRow w.heap.size 61 10 v' (cs.take (j + 1)).length (flat chE (cs.take (j + 1)))) := by
        rw [HF.out]
        show World.ownsRow _ _ _ _ _ _ _
        rw [List.length_append]; exact ho'
      clear ho ho' hg' hob gAl g
      go_wp2_with fail
      go_roundw
      case rel => exact ⟨j + 1, by omega, by go_num, g', HO.out⟩
      case measure => simp [intOf]; omega
    · have e : j = n := by omega
      subst e
      have HE : Hid (cs.take j = cs) := List.take_of_length_le (by rw [HN.out]; exact Nat.le_refl _)
      rw [HE.out] at ho
      obtain ⟨a', c', rfl, _⟩ := SlIn.ofRow chE_len ho
      rw [HN.out] at ho ⊢
      have HO : Hid (wr.ownsRow w.heap.size 61 10 (.slice a' j c') j (flat chE cs)) := ho
      clear ho
      go_wp2_with fail
      refine bodyPost_ret (v := .slice a' j c') (by simp [results, Try.results129, go_sem]) rfl ?_
      exact ⟨a', c', rfl, g, HO.out⟩

theorem elI : ElT 102 2 inE 1 8 where
  und := Try.underlying102
  inf := by obtain ⟨i, h1, h2, h3, h4⟩ := infoI; exact ⟨i, _, h1, h2, h3, h4, rfl⟩
  len := inE_len
  one := by intro x u hu; simp [inE] at hu; rcases hu with rfl; rfl
  pos := by decide
  few := by decide
theorem elKs : ElT 86 89 kyE 2 16 where
  und := Try.underlying86
  inf := by obtain ⟨i, h1, h2, h3, h4⟩ := infoK; exact ⟨i, _, h1, h2, h3, h4, rfl⟩
  len := kyE_len
  one := by intro x u hu; simp [kyE] at hu; rcases hu with rfl | rfl <;> rfl
  pos := by decide
  few := by decide
theorem own_litN (w : World) (e size : Nat) : (w.alloc (.cells #[] e)).ownsRow w.heap.size e size (.slice (some ⟨w.heap.size, 0, none⟩) 0 0) 0 [] := by
  refine ⟨by simp, .inr ⟨w.heap.size, 0, #[], rfl, Nat.le_refl _, heap_alloc_new w _, Nat.le_refl _, by unfold maxLen; omega, by simp, by simp⟩⟩

set_option maxHeartbeats 4000000 in
theorem cloneI_any (a : Option Addr) (xs : List Int) (n c : Nat) (w : World) (hn : xs.length = n) (hm : n ≤ 1048576) (hr : Rs inE 1 w a xs) :
    Calls Try.prog 130 #[.slice a n c] w fun e w' => ∃ a' c', e = .returned (.slice a' n c') ∧ Below w.heap.size w w' ∧ w'.ownsRow w.heap.size 2 1 (.slice a' n c') n (flat inE xs) := by
  cases a with
  | none =>
    have h0 : xs = [] := by
      rcases hr with h | ⟨b, off, e, _⟩
      · exact h
      · cases e
    subst h0
    have e : n = 0 := by rw [← hn]; rfl
    subst e
    have hEq : ∀ W : World, (binOp .eql 102 (.slice none 0 c) (.slice none 0 0)).run Try.prog W = .ok (.bool true) W := fun W => by kernel_rfl
    go_enter Try.func130, Try.ntmps130
    go_wp2_with fail
    refine bodyPost_ret (v := .slice none 0 0) (by simp [results, Try.results130, go_sem]) rfl ?_
    exact ⟨none, 0, rfl, Below.refl _ _, ownsRow_nil _ _ _ _⟩
  | some p =>
    have HN : Hid (xs.length = n) := hn
    have g1 : Below w.heap.size w (w.alloc (.cells #[] 2)) := by go_grown
    have hr2 := hr.below g1 (Nat.le_refl _)
    have ho0 : (w.alloc (.cells #[] 2)).ownsRow w.heap.size 2 1 (.slice (some ⟨w.heap.size, 0, none⟩) 0 0) ([] : List Int).length (flat inE []) := own_litN w 2 1
    have hEq : ∀ W : World, (binOp .eql 102 (.slice (some p) n c) (.slice none 0 0)).run Try.prog W = .ok (.bool false) W := fun W => by kernel_rfl
    clear hn hr
    go_enter Try.func130, Try.ntmps130
    go_wp2_with (at_builtin; refine wpList_append_sl elI _ rfl _ _ rfl w.heap.size _ [] xs (some p) n c rfl rfl HN.out ho0 hr2 (by rw [HN.out]; simp; omega) g1.size ?_)
    intro v' w' ho' hg' hob
    have g' : Below w.heap.size w w' := Below.grown g1 hg' g1.size (fun k e => (ho0.lt k e).1)
    have ho' : w'.ownsRow w.heap.size 2 1 v' xs.length (flat inE xs) := ho'
    obtain ⟨a', c', rfl, _⟩ := SlIn.ofRow inE_len ho'
    have HO : Hid (w'.ownsRow w.heap.size 2 1 (.slice a' n c') n (flat inE xs)) := by show World.ownsRow _ _ _ _ _ _ _; rw [← HN.out]; exact ho'
    rw [HN.out]
    clear ho' ho0 hg' hob hr2 g1
    go_wp2_with fail
    refine bodyPost_ret (v := .slice a' n c') (by simp [results, Try.results130, go_sem]) rfl ?_
    exact ⟨a', c', rfl, g', HO.out⟩

set_option maxHeartbeats 4000000 in
theorem cloneK_any (a : Option Addr) (xs : List K2) (n c : Nat) (w : World) (hn : xs.length = n) (hm : n ≤ 1048576) (hr : Rs kyE 2 w a xs) :
    Calls Try.prog 131 #[.slice a n c] w fun e w' => ∃ a' c', e = .returned (.slice a' n c') ∧ Below w.heap.size w w' ∧ w'.ownsRow w.heap.size 89 2 (.slice a' n c') n (flat kyE xs) := by
  cases a with
  | none =>
    have h0 : xs = [] := by
      rcases hr with h | ⟨b, off, e, _⟩
      · exact h
      · cases e
    subst h0
    have e : n = 0 := by rw [← hn]; rfl
    subst e
    have hEq : ∀ W : World, (binOp .eql 86 (.slice none 0 c) (.slice none 0 0)).run Try.prog W = .ok (.bool true) W := fun W => by kernel_rfl
    go_enter Try.func131, Try.ntmps131
    go_wp2_with fail
    refine bodyPost_ret (v := .slice none 0 0) (by simp [results, Try.results131, go_sem]) rfl ?_
    exact ⟨none, 0, rfl, Below.refl _ _, ownsRow_nil _ _ _ _⟩
  | some p =>
    have HN : Hid (xs.length = n) := hn
    have g1 : Below w.heap.size w (w.alloc (.cells #[] 89)) := by go_grown
    have hr2 := hr.below g1 (Nat.le_refl _)
    have ho0 : (w.alloc (.cells #[] 89)).ownsRow w.heap.size 89 2 (.slice (some ⟨w.heap.size, 0, none⟩) 0 0) ([] : List K2).length (flat kyE []) := own_litN w 89 2
    have hEq : ∀ W : World, (binOp .eql 86 (.slice (some p) n c) (.slice none 0 0)).run Try.prog W = .ok (.bool false) W := fun W => by kernel_rfl
    clear hn hr
    go_enter Try.func131, Try.ntmps131
    go_wp2_with (at_builtin; refine wpList_append_sl elKs _ rfl _ _ rfl w.heap.size _ [] xs (some p) n c rfl rfl HN.out ho0 hr2 (by rw [HN.out]; simp; omega) g1.size ?_)
    intro v' w' ho' hg' hob
    have g' : Below w.heap.size w w' := Below.grown g1 hg' g1.size (fun k e => (ho0.lt k e).1)
    have ho' : w'.ownsRow w.heap.size 89 2 v' xs.length (flat kyE xs) := ho'
    obtain ⟨a', c', rfl, _⟩ := SlIn.ofRow kyE_len ho'
    have HO : Hid (w'.ownsRow w.heap.size 89 2 (.slice a' n c') n (flat kyE xs)) := by show World.ownsRow _ _ _ _ _ _ _; rw [← HN.out]; exact ho'
    rw [HN.out]
    clear ho' ho0 hg' hob hr2 g1
    go_wp2_with fail
    refine bodyPost_ret (v := .slice a' n c') (by simp [results, Try.results131, go_sem]) rfl ?_
    exact ⟨a', c', rfl, g', HO.out⟩

theorem T4.block {w w' : World} {b : Nat} {id : Int} {ua ma la : Option Addr} {un uc mn mc ln lc : Nat} (h : T4 w b id ua un uc ma mn mc la ln lc) (hb : w'.heap[b]? = w.heap[b]?) : T4 w' b id ua un uc ma mn mc la ln lc :=
  ⟨(World.cell?_of_block hb).trans h.c0, (World.cell?_of_block hb).trans h.c1, (World.cell?_of_block hb).trans h.c2, (World.cell?_of_block hb).trans h.c3⟩

set_option maxHeartbeats 8000000 in
theorem ownTxs_any (a : Option Addr) (xs : List TxV) (n c : Nat) (w : World) (hn : xs.length = n) (hm : n ≤ 1048576) (hs : ∀ x ∈ xs, TxOk 1048576 x) (hr : TxRd w a xs) :
    Calls Try.prog 80 #[.slice a n c] w fun e w' => ∃ a' c' hs, e = .returned (.slice a' n c') ∧ Below w.heap.size w w' ∧ w'.ownsRow w.heap.size 110 4 (.slice a' n c') hs.length (flat hdE hs) ∧ LsC w.heap.size w' hs xs := by
  have HN : Hid (xs.length = n) := hn
  have HR : Hid (∀ V, Below w.heap.size w V → TxRd V a xs) := fun V hV => hr.below hV (Nat.le_refl _)
  have HS : Hid (∀ x ∈ xs, TxOk 1048576 x) := hs
  clear hn hs hr
  go_enter Try.func80, Try.ntmps80
  go_upto_region 3 with (fail)
  have ho0 : w.ownsRow w.heap.size 110 4 (.slice none 0 0) ([] : List TxH).length (flat hdE []) := ownsRow_nil _ _ _ _
  go_loopw [8, 3] (fun i v wr => ∃ (j : Nat) (hs : List TxH), j ≤ n ∧ i = .int .i64 j ∧ Below w.heap.size w wr ∧ wr.ownsRow w.heap.size 110 4 v hs.length (flat hdE hs) ∧ LsC w.heap.size wr hs (xs.take j)) (fun i _ _ => n - (intOf i).toNat)
  case atStart => exact ⟨0, [], Nat.zero_le _, rfl, Below.refl _ _, ho0, LsC.nil _ _⟩
  case round =>
    clear ho0
    obtain ⟨j, hs, hj, rfl, g, ho, hL⟩ := hrel
    by_cases hlt : j < n
    · have hjn : (j : Int) < (n : Int) := by omega
      obtain ⟨x, hx⟩ := at_ltT (xs := xs) (i := j) (by rw [HN.out]; exact hlt)
      obtain ⟨b, off, ua, ma, la, uc, mc, lc, e0, Z⟩ := (HR.out wr g).at hx
      obtain rfl := e0
      have HF : Hid (xs.take (j + 1) = xs.take j ++ [x]) := take_snoc hx
      have hhl : hs.length ≤ 1048576 := by rw [hL.len, List.length_take]; omega
      have hok := HS.out x (List.mem_of_getElem? hx)
      clear hx
      obtain ⟨id, us, ms, ls⟩ := x
      obtain ⟨k1, k2, k3, k4⟩ := hok
      obtain ⟨c0, c1, c2, c3, hru, hrm, hrl⟩ := Z
      dsimp only at c0 c1 c2 c3 hru hrm hrl k1 k2 k3 k4
      have HC1 : Hid (∀ V, Below wr.heap.size wr V → Calls Try.prog 129 #[.slice ua us.length uc] V fun e w' => ∃ a' c', e = .returned (.slice a' us.length c') ∧ Below V.heap.size V w' ∧ w'.ownsRow V.heap.size 61 10 (.slice a' us.length c') us.length (flat chE us)) := fun V hV => ownChanges_any ua us us.length uc V rfl k1 k2 (hru.below hV (Nat.le_refl _))
      have HC2 : Hid (∀ V, Below wr.heap.size wr V → Calls Try.prog 130 #[.slice ma ms.length mc] V fun e w' => ∃ a' c', e = .returned (.slice a' ms.length c') ∧ Below V.heap.size V w' ∧ w'.ownsRow V.heap.size 2 1 (.slice a' ms.length c') ms.length (flat inE ms)) := fun V hV => cloneI_any ma ms ms.length mc V rfl k3 (hrm.below hV (Nat.le_refl _))
      have HC3 : Hid (∀ V, Below wr.heap.size wr V → Calls Try.prog 131 #[.slice la ls.length lc] V fun e w' => ∃ a' c', e = .returned (.slice a' ls.length c') ∧ Below V.heap.size V w' ∧ w'.ownsRow V.heap.size 89 2 (.slice a' ls.length c') ls.length (flat kyE ls)) := fun V hV => cloneK_any la ls ls.length lc V rfl k4 (hrl.below hV (Nat.le_refl _))
      obtain ⟨un, hun⟩ : ∃ un, us.length = un := ⟨_, rfl⟩
      obtain ⟨mn, hmn⟩ : ∃ mn, ms.length = mn := ⟨_, rfl⟩
      obtain ⟨ln, hln⟩ : ∃ ln, ls.length = ln := ⟨_, rfl⟩
      have HUn : Hid (us.length = un ∧ ms.length = mn ∧ ls.length = ln) := ⟨hun, hmn, hln⟩
      rw [hun] at c1 HC1
      rw [hmn] at c2 HC2
      rw [hln] at c3 HC3
      clear hun hmn hln hru hrm hrl k1 k2 k3 k4
      go_upto_region 5 with (fail)
      generalize hY : World.alloc _ _ = Y
      have gY : Below wr.heap.size wr Y := by rw [← hY]; go_grown
      have Z : T4 Y wr.heap.size id ua un uc ma mn mc la ln lc := by rw [← hY]; exact ⟨by simp [go_sem], by simp [go_sem], by simp [go_sem], by simp [go_sem]⟩
      have hne : ∀ q, u3.ownBlock = some q → q ≠ wr.heap.size := fun q e => Nat.ne_of_lt (ownsRow_lo ho q e).2
      have ho := ownsRow_below ho gY
      have hL := hL.below gY
      have gw := g.trans (gY.mono g.size)
      clear hY c0 c1 c2 c3 g
      have HC1 : Hid (∀ V, Below Y.heap.size Y V → Calls Try.prog 129 #[.slice ua un uc] V fun e w' => ∃ a' c', e = .returned (.slice a' un c') ∧ Below V.heap.size V w' ∧ w'.ownsRow V.heap.size 61 10 (.slice a' un c') un (flat chE us)) := fun V hV => HC1.out V (gY.trans (hV.mono gY.size))
      have HC2 : Hid (∀ V, Below Y.heap.size Y V → Calls Try.prog 130 #[.slice ma mn mc] V fun e w' => ∃ a' c', e = .returned (.slice a' mn c') ∧ Below V.heap.size V w' ∧ w'.ownsRow V.heap.size 2 1 (.slice a' mn c') mn (flat inE ms)) := fun V hV => HC2.out V (gY.trans (hV.mono gY.size))
      have HC3 : Hid (∀ V, Below Y.heap.size Y V → Calls Try.prog 131 #[.slice la ln lc] V fun e w' => ∃ a' c', e = .returned (.slice a' ln c') ∧ Below V.heap.size V w' ∧ w'.ownsRow V.heap.size 89 2 (.slice a' ln c') ln (flat kyE ls)) := fun V hV => HC3.out V (gY.trans (hV.mono gY.size))
      clear gY
      generalize wr.heap.size = tb at Z hne ⊢
      refine wp_region_held_drew (S := fun V => T4 V tb id ua un uc ma mn mc la ln lc ∧ Below w.heap.size w V) (by kernel_rfl) ⟨⟨Z.c0, Z.c1, Z.c2, Z.c3⟩, gw.trans ((Below.refl _ Y).drew.mono gw.size)⟩ (fun hHeld => ?_)
      have hbY : Below Y.heap.size Y Y.drew := (Below.refl _ Y).drew
      clear Z
      generalize Y.drew = D at hHeld hbY ⊢
      have hY1' : Y.heap.size ≤ D.heap.size := hbY.size
      have hhl2 : hs.length + 1 ≤ 100000000 := by omega
      refine wpAnyH_take (i := 0) (v := ?v1) rfl (by kernel_rfl) (by kernel_rfl) (by kernel_rfl) (fun _ _ _ h => h) (Or.inl ⟨by kernel_rfl, ?h1⟩) hHeld ?_
      case h1 => intro u hSw; (obtain ⟨q0, q1, q2, q3⟩ := hSw.1); go_simp; try with_reducible rfl
      try simp only [List.getElem_toArray]
      try simp only [List.getElem_cons_succ]
      try simp only [List.getElem_cons_zero]
      try simp only [Act.put]
      try simp only [List.setIfInBounds_toArray]
      try simp only [List.set]
      refine wpAnyH_take (i := 1) (v := ?v2) rfl (by kernel_rfl) (by kernel_rfl) (by kernel_rfl) (fun _ _ _ h => h) (Or.inl ⟨by kernel_rfl, ?h2⟩) hHeld ?_
      case h2 => intro u hSw; (obtain ⟨q0, q1, q2, q3⟩ := hSw.1); go_simp; try with_reducible rfl
      try simp only [List.getElem_toArray]
      try simp only [List.getElem_cons_succ]
      try simp only [List.getElem_cons_zero]
      try simp only [Act.put]
      try simp only [List.setIfInBounds_toArray]
      try simp only [List.set]
      refine wpAnyH_take (i := 2) (v := ?v3) rfl (by kernel_rfl) (by kernel_rfl) (by kernel_rfl) (fun _ _ _ h => h) (Or.inl ⟨by kernel_rfl, ?h3⟩) hHeld ?_
      case h3 => intro u hSw; (obtain ⟨q0, q1, q2, q3⟩ := hSw.1); go_simp; try with_reducible rfl
      try simp only [List.getElem_toArray]
      try simp only [List.getElem_cons_succ]
      try simp only [List.getElem_cons_zero]
      try simp only [Act.put]
      try simp only [List.setIfInBounds_toArray]
      try simp only [List.set]
      refine wpAnyH_take (i := 3) (v := ?v4) rfl (by kernel_rfl) (by kernel_rfl) (by kernel_rfl) (fun _ _ _ h => h) (Or.inl ⟨by kernel_rfl, ?h4⟩) hHeld ?_
      case h4 => intro u hSw; (obtain ⟨q0, q1, q2, q3⟩ := hSw.1); go_simp; try with_reducible rfl
      try simp only [List.getElem_toArray]
      try simp only [List.getElem_cons_succ]
      try simp only [List.getElem_cons_zero]
      try simp only [Act.put]
      try simp only [List.setIfInBounds_toArray]
      try simp only [List.set]
      refine wpAnyH_take (i := 4) (v := ?v5) rfl (by kernel_rfl) (by kernel_rfl) (by kernel_rfl) (fun _ _ _ h => h) (Or.inl ⟨by kernel_rfl, ?h5⟩) hHeld ?_
      case h5 => intro u hSw; (obtain ⟨q0, q1, q2, q3⟩ := hSw.1); go_simp; try with_reducible rfl
      try simp only [List.getElem_toArray]
      try simp only [List.getElem_cons_succ]
      try simp only [List.getElem_cons_zero]
      try simp only [Act.put]
      try simp only [List.setIfInBounds_toArray]
      try simp only [List.set]
      refine wpAnyH_take (i := 6) (v := ?v6) rfl (by kernel_rfl) (by kernel_rfl) (by kernel_rfl) (fun _ _ _ h => h) (Or.inl ⟨by kernel_rfl, ?h6⟩) hHeld ?_
      case h6 => intro u hSw; (obtain ⟨q0, q1, q2, q3⟩ := hSw.1); go_simp; try with_reducible rfl
      try simp only [List.getElem_toArray]
      try simp only [List.getElem_cons_succ]
      try simp only [List.getElem_cons_zero]
      try simp only [Act.put]
      try simp only [List.setIfInBounds_toArray]
      try simp only [List.set]
      refine wpAnyH_take (i := 7) (v := ?v7) rfl (by kernel_rfl) (by kernel_rfl) (by kernel_rfl) (fun _ _ _ h => h) (Or.inl ⟨by kernel_rfl, ?h7⟩) hHeld ?_
      case h7 => intro u hSw; (obtain ⟨q0, q1, q2, q3⟩ := hSw.1); go_simp; try with_reducible rfl
      try simp only [List.getElem_toArray]
      try simp only [List.getElem_cons_succ]
      try simp only [List.getElem_cons_zero]
      try simp only [Act.put]
      try simp only [List.setIfInBounds_toArray]
      try simp only [List.set]
      refine wpAnyH_take (i := 9) (v := ?v8) rfl (by kernel_rfl) (by kernel_rfl) (by kernel_rfl) (fun _ _ _ h => h) (Or.inl ⟨by kernel_rfl, ?h8⟩) hHeld ?_
      case h8 => intro u hSw; (obtain ⟨q0, q1, q2, q3⟩ := hSw.1); go_simp; try with_reducible rfl
      try simp only [List.getElem_toArray]
      try simp only [List.getElem_cons_succ]
      try simp only [List.getElem_cons_zero]
      try simp only [Act.put]
      try simp only [List.setIfInBounds_toArray]
      try simp only [List.set]
      refine wpAnyH_take (i := 10) (v := ?v9) rfl (by kernel_rfl) (by kernel_rfl) (by kernel_rfl) (fun _ _ _ h => h) (Or.inl ⟨by kernel_rfl, ?h9⟩) hHeld ?_
      case h9 => intro u hSw; (obtain ⟨q0, q1, q2, q3⟩ := hSw.1); go_simp; try with_reducible rfl
      try simp only [List.getElem_toArray]
      try simp only [List.getElem_cons_succ]
      try simp only [List.getElem_cons_zero]
      try simp only [Act.put]
      try simp only [List.setIfInBounds_toArray]
      try simp only [List.set]
      refine wpAnyH_ready (rs := [5]) (by kernel_rfl) (by simp) ?_
      refine AllReadyH.cons rfl (fun K hK => ?_) AllReadyH.nil
      go_simp
      go_wp2_with (go_at_call 129; refine (HC1.out _ hbY).mono ?_; rintro e V1 ⟨a1, c1, rfl, gg, o1⟩)
      refine hK.out _ _ (⟨hHeld.1.below gg hHeld.1.lt, hHeld.2.trans (gg.mono hHeld.2.size)⟩) (fun hHeld => ?_)
      clear hK K
      have hbY := hbY.trans (gg.mono hbY.size)
      have hY2' : Y.heap.size ≤ V1.heap.size := hbY.size
      clear gg
      try simp only [Act.put]
      try simp only [List.setIfInBounds_toArray]
      try simp only [List.set]
      refine wpAnyH_ready (rs := [8]) (by kernel_rfl) (by simp) ?_
      refine AllReadyH.cons rfl (fun K hK => ?_) AllReadyH.nil
      go_simp
      go_wp2_with (go_at_call 130; refine (HC2.out _ hbY).mono ?_; rintro e V2 ⟨a2, c2, rfl, gg, o2⟩)
      refine hK.out _ _ (⟨hHeld.1.below gg hHeld.1.lt, hHeld.2.trans (gg.mono hHeld.2.size)⟩) (fun hHeld => ?_)
      clear hK K
      have o1 := ownsRow_below o1 gg
      have hbY := hbY.trans (gg.mono hbY.size)
      have hY3' : Y.heap.size ≤ V2.heap.size := hbY.size
      clear gg
      try simp only [Act.put]
      try simp only [List.setIfInBounds_toArray]
      try simp only [List.set]
      refine wpAnyH_ready (rs := [11]) (by kernel_rfl) (by simp) ?_
      refine AllReadyH.cons rfl (fun K hK => ?_) AllReadyH.nil
      go_simp
      go_wp2_with (go_at_call 131; refine (HC3.out _ hbY).mono ?_; rintro e V3 ⟨a3, c3, rfl, gg, o3⟩)
      refine hK.out _ _ (⟨hHeld.1.below gg hHeld.1.lt, hHeld.2.trans (gg.mono hHeld.2.size)⟩) (fun hHeld => ?_)
      clear hK K
      have o1 := ownsRow_below o1 gg
      have o2 := ownsRow_below o2 gg
      have hb3 := hbY.trans (gg.mono hbY.size)
      clear gg hbY
      try simp only [Act.put]
      try simp only [List.setIfInBounds_toArray]
      try simp only [List.set]
      refine wpAnyH_take (i := 12) (v := ?v10) rfl (by kernel_rfl) (by kernel_rfl) (by kernel_rfl) (fun _ _ _ h => h) (Or.inl ⟨by kernel_rfl, ?h10⟩) hHeld ?_
      case h10 => intro u hSw; (obtain ⟨q0, q1, q2, q3⟩ := hSw.1); go_simp; try with_reducible rfl
      try simp only [List.getElem_toArray]
      try simp only [List.getElem_cons_succ]
      try simp only [List.getElem_cons_zero]
      try simp only [Act.put]
      try simp only [List.setIfInBounds_toArray]
      try simp only [List.set]
      have hYw : w.heap.size ≤ Y.heap.size := gw.size
      have t3 : OneT w.heap.size V3 (⟨id, a1, un, c1, a2, mn, c2, a3, ln, c3⟩ : TxH) ⟨id, us, ms, ls⟩ := ⟨rfl, HUn.out.1.symm, HUn.out.2.1.symm, HUn.out.2.2.symm, by have h := ownsRow_base o1 (Nat.le_trans hYw hY1'); show World.ownsRow _ _ _ _ _ us.length _; rw [HUn.out.1]; exact h, by have h := ownsRow_base o2 (Nat.le_trans hYw hY2'); show World.ownsRow _ _ _ _ _ ms.length _; rw [HUn.out.2.1]; exact h, by have h := ownsRow_base o3 (Nat.le_trans hYw hY3'); show World.ownsRow _ _ _ _ _ ls.length _; rw [HUn.out.2.2]; exact h⟩
      have L3 : LsC w.heap.size V3 (hs ++ [(⟨id, a1, un, c1, a2, mn, c2, a3, ln, c3⟩ : TxH)]) (xs.take (j + 1)) := by
        rw [HF.out]
        refine hL.snoc hb3 t3 (fun q hq => ?_)
        rcases hq with hq | hq | hq
        · exact Nat.le_trans hY1' (ownsRow_lo o1 q hq).1
        · exact Nat.le_trans hY2' (ownsRow_lo o2 q hq).1
        · exact Nat.le_trans hY3' (ownsRow_lo o3 q hq).1
      have ho3 := ownsRow_below ho hb3
      clear o1 o2 o3 t3 ho
      refine wpAnyH_ready (rs := [13]) (by kernel_rfl) (by simp) ?_
      refine AllReadyH.cons rfl (fun K hK => ?_) AllReadyH.nil
      go_simp
      go_wp2_with (fail)
      refine hK.out _ _ (⟨hHeld.1.below (by go_grown) hHeld.1.lt, hHeld.2.trans ((by go_grown : Below V3.heap.size V3 _).mono hHeld.2.size)⟩) (fun hHeld => ?_)
      clear hK K
      have gAl : Below V3.heap.size V3 (V3.alloc (.cells (hdE (⟨id, a1, un, c1, a2, mn, c2, a3, ln, c3⟩ : TxH)).toArray 110)) := by go_grown
      have hoB := ownsRow_below ho3 gAl
      have LB := L3.below gAl
      clear ho3 L3 gAl
      try simp only [Act.put]
      try simp only [List.setIfInBounds_toArray]
      try simp only [List.set]
      refine wpAnyH_ready (rs := [14]) (by kernel_rfl) (by simp) ?_
      refine AllReadyH.cons rfl (fun K hK => ?_) AllReadyH.nil
      rw [if_pos (by kernel_rfl)]
      refine wp_append_sl elH _ _ _ rfl w.heap.size u3 hs [(⟨id, a1, un, c1, a2, mn, c2, a3, ln, c3⟩ : TxH)] (some ⟨V3.heap.size, 0, none⟩) 1 1 rfl rfl rfl hoB (rs_one (enc := hdE) V3 (⟨id, a1, un, c1, a2, mn, c2, a3, ln, c3⟩ : TxH) 110) ?m1 ?m2 ?_; rotate_left 2; intro v4 w4 ho4 hg4 _
      refine hK.out _ _ (⟨hHeld.1.block (hg4.block tb hHeld.1.lt (fun e => hne tb e.symm rfl)), Below.grown hHeld.2 hg4 hHeld.2.size (fun q e => (ownsRow_lo hoB q e).1)⟩) (fun hHeld => ?_)
      clear hK K
      have L4 : LsC w.heap.size w4 (hs ++ [(⟨id, a1, un, c1, a2, mn, c2, a3, ln, c3⟩ : TxH)]) (xs.take (j + 1)) := LB.kp ⟨hg4.size, hg4.block⟩ (LB.head hoB)
      clear LB hoB hg4
      try simp only [Act.put]
      try simp only [List.setIfInBounds_toArray]
      try simp only [List.set]
      refine wpAnyH_take (i := 15) (v := ?v11) rfl (by kernel_rfl) (by kernel_rfl) (by kernel_rfl) (fun _ _ _ h => h) (Or.inl ⟨by kernel_rfl, ?h11⟩) hHeld ?_
      case h11 => intro u hSw; (obtain ⟨q0, q1, q2, q3⟩ := hSw.1); go_simp; try with_reducible rfl
      try simp only [List.getElem_toArray]
      try simp only [List.getElem_cons_succ]
      try simp only [List.getElem_cons_zero]
      try simp only [Act.put]
      try simp only [List.setIfInBounds_toArray]
      try simp only [List.set]
      refine wpAnyH_done (by kernel_rfl) ?_ _
      case m1 => simp; omega
      case m2 => exact hHeld.2.size
      have g := hHeld.2
      clear hHeld
      have HO : Hid (w4.ownsRow w.heap.size 110 4 v4 (hs ++ [(⟨id, a1, un, c1, a2, mn, c2, a3, ln, c3⟩ : TxH)]).length (flat hdE (hs ++ [(⟨id, a1, un, c1, a2, mn, c2, a3, ln, c3⟩ : TxH)]))) := ho4
      clear ho4
      go_wp2_with fail
      go_roundw
      case rel => exact ⟨j + 1, hs ++ [(⟨id, a1, un, c1, a2, mn, c2, a3, ln, c3⟩ : TxH)], by omega, by go_num, g, HO.out, L4⟩
      case measure => simp [intOf]; omega
    · have e : j = n := by omega
      subst e
      have HE : Hid (xs.take j = xs) := List.take_of_length_le (by rw [HN.out]; exact Nat.le_refl _)
      rw [HE.out] at hL
      obtain ⟨a', c', rfl, _⟩ := SlIn.ofRow hdE_len ho
      have HLn : Hid (hs.length = j) := by show _ = _; rw [hL.len]; exact HN.out
      have HO : Hid (wr.ownsRow w.heap.size 110 4 (.slice a' j c') hs.length (flat hdE hs)) := by have h := ho; rw [HLn.out] at h; show World.ownsRow _ _ _ _ _ _ _; rw [HLn.out]; exact h
      have HL : Hid (LsC w.heap.size wr hs xs) := hL
      rw [HLn.out]
      clear ho hL
      go_wp2_with fail
      refine bodyPost_ret (v := .slice a' j c') (by simp [results, Try.results80, go_sem]) rfl ?_
      exact ⟨a', c', hs, rfl, g, HO.out, HL.out⟩

end Go.Proofs.Ytmboclfgldgefaa
