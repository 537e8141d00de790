/-
  The model's l6Put: a row put where it belongs.
-/
import Derived.Test.YtmbllmhpnopbdaaFFCbf
import Derived.Test.YtmbllmhpnopbdaaFFRwg

namespace Go.Proofs.Ytmbllmhpnopbdaa
open Go.RowKit
set_option linter.unusedVariables false

theorem Rs.take {α : Type} {enc : α → List Value} {k : Nat} {w : World} {a : Option Addr} {xs : List α} (h : Rs enc k w a xs) (j : Nat) : Rs enc k w a (xs.take j) := by
  rcases h with rfl | ⟨b, off, ha, hc⟩
  · exact .inl (by simp)
  · refine .inr ⟨b, off, ha, fun i x hx => hc i x ?_⟩
    rw [List.getElem?_take] at hx
    split at hx
    · exact hx
    · cases hx
theorem Rs.drop {α : Type} {enc : α → List Value} {k : Nat} {w : World} {b off : Nat} {xs : List α} (h : Rs enc k w (some ⟨b, off, none⟩) xs) (j : Nat) : Rs enc k w (some ⟨b, off + j * k, none⟩) (xs.drop j) := by
  rcases h with rfl | ⟨b', off', ha, hc⟩
  · exact .inl (by simp)
  · cases ha
    refine .inr ⟨b, off + j * k, rfl, fun i x hx l u hu => ?_⟩
    rw [List.getElem?_drop] at hx
    have := hc (j + i) x hx l u hu
    rw [Nat.add_mul, ← Nat.add_assoc] at this
    exact this
theorem befB_iff (t k u l : Int) : befB t k u l = true ↔ t < u ∨ (t = u ∧ k < l) := by simp [befB]
/-- new: rs with r put ahead of the first that is not before it. -/
def PutAt (rs : List Rw) (r : Rw) (new : List Rw) : Prop := ∃ j, j ≤ rs.length ∧ (∀ x ∈ rs.take j, rLt x r) ∧ (∀ x, rs[j]? = some x → ¬ rLt x r) ∧ new = rs.take j ++ [r] ++ rs.drop j

theorem PutAt.perm {rs new : List Rw} {r : Rw} (h : PutAt rs r new) : new.Perm (r :: rs) := by
  obtain ⟨j, _, _, _, rfl⟩ := h
  have h1 : (rs.take j ++ [r] ++ rs.drop j).Perm (r :: (rs.take j ++ rs.drop j)) := by
    rw [List.append_assoc]
    exact List.perm_middle
  rw [List.take_append_drop] at h1
  exact h1

theorem PutAt.sorted {rs new : List Rw} {r : Rw} (h : PutAt rs r new) (hs : rs.Pairwise rLt) (hne : ∀ x ∈ rs, ¬ (x.t = r.t ∧ x.k = r.k)) : new.Pairwise rLt := by
  obtain ⟨j, hj, hb, ha, rfl⟩ := h
  have hsp : (rs.take j ++ rs.drop j).Pairwise rLt := by rw [List.take_append_drop]; exact hs
  obtain ⟨s1, s2, s3⟩ := List.pairwise_append.1 hsp
  have hgt : ∀ x ∈ rs.drop j, rLt r x := by
    cases hd : rs.drop j with
    | nil => simp
    | cons y l =>
      have hy : rs[j]? = some y := by
        have := List.getElem?_drop (xs := rs) (i := j) (j := 0)
        rw [hd] at this
        simpa using this.symm
      have h1 := ha y hy
      have h2 := hne y (List.mem_of_getElem? hy)
      have hry : rLt r y := by unfold rLt at *; omega
      rw [hd] at s2
      have h3 := (List.pairwise_cons.1 s2).1
      intro x hx
      rcases List.mem_cons.1 hx with rfl | hx
      · exact hry
      · have := h3 x hx
        unfold rLt at *; omega
  rw [List.append_assoc]
  refine List.pairwise_append.2 ⟨s1, ?_, ?_⟩
  · exact List.pairwise_cons.2 ⟨hgt, s2⟩
  · intro x hx y hy
    rcases List.mem_cons.1 hy with rfl | hy
    · exact hb x hx
    · exact s3 x hx y hy

structure LpS (b : Nat) (w : World) (r : Rw) (V : World) : Prop where
  c : RowC V b 0 r
  g : Below w.heap.size w V
  l : b < w.heap.size
theorem LpS.up {b : Nat} {w V W : World} {r : Rw} (h : LpS b w r V) (hb : Below V.heap.size V W) : LpS b w r W :=
  ⟨h.c.below hb (Nat.lt_of_lt_of_le h.l h.g.size), h.g.trans (hb.mono h.g.size), h.l⟩
theorem LpS.alloc {b : Nat} {w V : World} {r : Rw} (h : LpS b w r V) (o : Obj) : LpS b w r (V.alloc o) := h.up ((Below.refl _ _).alloc (Nat.le_refl _) _)
theorem LpS.drew {b : Nat} {w V : World} {r : Rw} (h : LpS b w r V) : LpS b w r V.drew := h.up (Below.refl _ _).drew
theorem LpS.grow {b : Nat} {w V W : World} {r : Rw} (h : LpS b w r V) {row : Option Nat} (hg : V.grownBy W row) (hl : ∀ q, row = some q → w.heap.size ≤ q) : LpS b w r W := by
  have hB : Below w.heap.size V W := Below.grown (Below.refl _ _) hg h.g.size hl
  exact ⟨h.c.below hB h.l, h.g.trans hB, h.l⟩

set_option maxRecDepth 20000 in
set_option maxHeartbeats 4000000 in
theorem l6Put_any (g n cap : Nat) (rs : List Rw) (t k v : Int) (s : ByteArray) (w : World) (hn : rs.length = n) (hm : n ≤ 1000) (hcap : n ≤ cap) (hR : Rs rwE 4 w (some ⟨g, 0, none⟩) rs) :
    Calls Try.prog 34 #[.slice (some ⟨g, 0, none⟩) n cap, .agg #[.int .i64 t, .int .i64 k, .int .i64 v, .string s]] w fun e w' => ∃ g' cap' new, e = .returned (.slice (some ⟨g', 0, none⟩) new.length cap') ∧ PutAt rs ⟨t, k, v, s⟩ new ∧ Below w.heap.size w w' ∧ w'.ownsRow w.heap.size 26 4 (.slice (some ⟨g', 0, none⟩) new.length cap') new.length (flat rwE new) := by
  have HN : Hid (rs.length = n) := hn
  have gX : Below w.heap.size w (w.alloc (.cells #[.int .i64 t, .int .i64 k, .int .i64 v, .string s] 26)) := by go_grown
  have hX : RowC (w.alloc (.cells #[.int .i64 t, .int .i64 k, .int .i64 v, .string s] 26)) w.heap.size 0 ⟨t, k, v, s⟩ := ⟨by simp [go_sem], by simp [go_sem], by simp [go_sem], by simp [go_sem]⟩
  have hlX : w.heap.size < (w.alloc (.cells #[.int .i64 t, .int .i64 k, .int .i64 v, .string s] 26)).heap.size := by simp
  go_enter Try.func34, Try.ntmps34
  go_wp2_with fail
  generalize w.alloc (.cells #[.int .i64 t, .int .i64 k, .int .i64 v, .string s] 26) = X at gX hX hlX ⊢
  have hR := hR.below gX (Nat.le_refl _)
  have HR : Hid (Rs rwE 4 X (some ⟨g, 0, none⟩) rs) := hR
  clear hR hn
  go_loopw [5] (fun i wr => ∃ j : Nat, j ≤ n ∧ i = .int .i64 j ∧ Below X.heap.size X wr ∧ ∀ x ∈ rs.take j, rLt x ⟨t, k, v, s⟩) (fun i _ => n - (intOf i).toNat)
  case atStart => exact ⟨0, Nat.zero_le _, rfl, Below.refl _ _, by simp⟩
  case round =>
    obtain ⟨j, hj, rfl, gr, hbef⟩ := hrel
    have hX := hX.below gr hlX
    have hRj := HR.out.below gr (Nat.le_refl _)
    by_cases hlt : j < n
    · obtain ⟨x, hx⟩ : ∃ x, rs[j]? = some x := ⟨_, List.getElem?_eq_getElem (by rw [HN.out]; exact hlt)⟩
      have hC := hRj.rowAt hx
      rw [Nat.zero_add] at hC
      have hjn : (j : Int) < (n : Int) := by omega
      have hcon := l1BeforeO_any g (j * 4) w.heap.size 0 x.t x.k t k wr hC.c0 hC.c1 hX.c0 hX.c1
      by_cases hb : befB x.t x.k t k = true
      · have hb2 : ∀ y ∈ rs.take (j + 1), rLt y ⟨t, k, v, s⟩ := fun y hy => by
          rw [take_snoc hx] at hy
          rcases List.mem_append.1 hy with h | h
          · exact hbef y h
          · simp at h; subst h; exact (befB_iff _ _ _ _).1 hb
        rw [hb] at hcon
        go_wp2_with (go_at_call 50; refine hcon.mono ?_; rintro e w8 ⟨rfl, m8, rfl⟩)
        go_roundw
        case rel => exact ⟨j + 1, by omega, by go_num, gr.trans ⟨rfl, rfl, rfl, Nat.le_refl _, fun _ _ => rfl⟩, hb2⟩
        case measure => simp [intOf]; omega
      · have hb0 : befB x.t x.k t k = false := by simpa using hb
        rw [hb0] at hcon
        have hend : ∀ y, rs[j]? = some y → ¬ rLt y ⟨t, k, v, s⟩ := fun y hy h => by
          rw [hx] at hy; cases hy; exact hb ((befB_iff _ _ _ _).2 h)
        go_upto_region 4 with (go_at_call 50; refine hcon.mono ?_; rintro e w8 ⟨rfl, m8, rfl⟩)
        have hX := hX.drews m8
        have gr : Below X.heap.size X (wr.drewN m8) := gr.trans ⟨rfl, rfl, rfl, Nat.le_refl _, fun _ _ => rfl⟩
        have hRj := HR.out.below gr (Nat.le_refl _)
        generalize wr.drewN m8 = wr at gr hX hRj ⊢
        clear hcon hC hx hb hb0
        have HT1 : Hid ((rs.take j).length = j) := by show _ = _; rw [List.length_take, HN.out]; omega
        have hT : Rs rwE 4 wr (some ⟨g, 0, none⟩) (rs.take j) := hRj.take j
        have hD := hRj.drop j
        rw [Nat.zero_add] at hD
        have HD1 : Hid ((rs.drop j).length = n - j) := by show _ = _; rw [List.length_drop, HN.out]
        have HP : Hid (PutAt rs ⟨t, k, v, s⟩ (rs.take j ++ [⟨t, k, v, s⟩] ++ rs.drop j)) := ⟨j, by rw [HN.out]; exact hj, hbef, hend, rfl⟩
        generalize rs.take j = xs at hT HT1 HP
        generalize rs.drop j = zs at hD HD1 HP
        have hwl := Nat.lt_of_lt_of_le hlX gr.size
        have gw := gX.trans (gr.mono gX.size)
        have hT2 := hT.below ((Below.refl wr.heap.size wr).alloc (Nat.le_refl _) (.cells #[] 26)) (Nat.le_refl _)
        have hL : (wr.alloc (.cells #[] 26)).ownsRow wr.heap.size 26 4 (.slice (some ⟨wr.heap.size, 0, none⟩) 0 0) ([] : List Rw).length (flat rwE []) := ownsRow_lit0 wr 26 4
        have hn1 : Hid (([] : List Rw).length + xs.length ≤ 100000000) := by show _ ≤ _; rw [HT1.out, List.length_nil]; omega
        have hn2 : Hid (wr.heap.size ≤ (wr.alloc (.cells #[] 26)).heap.size) := by show _ ≤ _; simp
        go_wp2_with (at_builtin; refine wpList_append_sl elW _ rfl _ _ rfl wr.heap.size _ [] xs (some ⟨g, 0, none⟩) j cap rfl rfl HT1.out hL hT2 hn1.out hn2.out ?_)
        intro v3 w3 ho3 hg3 _
        have hG : Below wr.heap.size wr w3 := Below.grown (((Below.refl wr.heap.size wr).alloc (Nat.le_refl _) (.cells #[] 26))) hg3 (by simp) (fun q e => (World.ownsRow.lt hL q e).1)
        have hS : LpS w.heap.size wr ⟨t, k, v, s⟩ w3 := ⟨hX.below hG hwl, hG, hwl⟩
        obtain ⟨A, hA, hDA⟩ : ∃ A, (if cap = j then some (⟨g, 0, none⟩ : Addr) else some ⟨g, j * 4, none⟩) = some A ∧ Rs rwE 4 wr (some A) zs := by
          by_cases hc : cap = j
          · exact ⟨_, if_pos hc, .inl (List.length_eq_zero_iff.1 (by rw [HD1.out]; omega))⟩
          · exact ⟨_, if_neg hc, hD⟩
        have hjl : j ≤ n := hj
        have hlow3 : ∀ q, v3.ownBlock = some q → wr.heap.size ≤ q := fun q e => (World.ownsRow.lt ho3 q e).1
        have ho3 : w3.ownsRow wr.heap.size 26 4 v3 xs.length (flat rwE xs) := ho3
        clear hT2 hL hg3 hX hRj hT hG
        go_upto_region 5 with (fail)
        refine wp_region_held_drew (S := LpS w.heap.size wr ⟨t, k, v, s⟩) (by kernel_rfl) hS.drew (fun hHeld => ?_)
        have hoD := ownsRow_below ho3 (Below.refl _ w3).drew
        clear hS ho3
        generalize w3.drew = D at hHeld hoD ⊢
        refine wpAnyH_take (i := 0) (v := ?v1) rfl (by kernel_rfl) (by kernel_rfl) (by kernel_rfl) (fun _ _ _ h => h) (Or.inl ⟨by kernel_rfl, ?h1⟩) hHeld ?_
        case h1 => intro u hSw; obtain ⟨⟨q0, q1, q2, q3⟩, _, _⟩ := hSw; dsimp only at q0 q1 q2 q3; go_simp; try with_reducible rfl
        try simp only [List.getElem_toArray]
        try simp only [List.getElem_cons_succ]
        try simp only [List.getElem_cons_zero]
        try simp only [Act.put]
        try simp only [List.setIfInBounds_toArray]
        try simp only [List.set]
        refine wpAnyH_take (i := 1) (v := ?v2) rfl (by kernel_rfl) (by kernel_rfl) (by kernel_rfl) (fun _ _ _ h => h) (Or.inl ⟨by kernel_rfl, ?h2⟩) hHeld ?_
        case h2 => intro u hSw; obtain ⟨⟨q0, q1, q2, q3⟩, _, _⟩ := hSw; dsimp only at q0 q1 q2 q3; go_simp; try with_reducible rfl
        try simp only [List.getElem_toArray]
        try simp only [List.getElem_cons_succ]
        try simp only [List.getElem_cons_zero]
        try simp only [Act.put]
        try simp only [List.setIfInBounds_toArray]
        try simp only [List.set]
        refine wpAnyH_take (i := 4) (v := ?v3) rfl (by kernel_rfl) (by kernel_rfl) (by kernel_rfl) (fun _ _ _ h => h) (Or.inl ⟨by kernel_rfl, ?h3⟩) hHeld ?_
        case h3 => intro u hSw; obtain ⟨⟨q0, q1, q2, q3⟩, _, _⟩ := hSw; dsimp only at q0 q1 q2 q3; go_simp; try with_reducible rfl
        try simp only [List.getElem_toArray]
        try simp only [List.getElem_cons_succ]
        try simp only [List.getElem_cons_zero]
        try simp only [Act.put]
        try simp only [List.setIfInBounds_toArray]
        try simp only [List.set]
        refine wpAnyH_take (i := 5) (v := ?v4) rfl (by kernel_rfl) (by kernel_rfl) (by kernel_rfl) (fun _ _ _ h => h) (Or.inl ⟨by kernel_rfl, ?h4⟩) hHeld ?_
        case h4 => intro u hSw; obtain ⟨⟨q0, q1, q2, q3⟩, _, _⟩ := hSw; dsimp only at q0 q1 q2 q3; go_simp; try with_reducible rfl
        try simp only [List.getElem_toArray]
        try simp only [List.getElem_cons_succ]
        try simp only [List.getElem_cons_zero]
        try simp only [Act.put]
        try simp only [List.setIfInBounds_toArray]
        try simp only [List.set]
        refine wpAnyH_take (i := 6) (v := ?v5) rfl (by kernel_rfl) (by kernel_rfl) (by kernel_rfl) (fun _ _ _ h => h) (Or.inl ⟨by kernel_rfl, ?h5⟩) hHeld ?_
        case h5 => intro u hSw; obtain ⟨⟨q0, q1, q2, q3⟩, _, _⟩ := hSw; dsimp only at q0 q1 q2 q3; go_simp; try with_reducible rfl
        try simp only [List.getElem_toArray]
        try simp only [List.getElem_cons_succ]
        try simp only [List.getElem_cons_zero]
        try simp only [Act.put]
        try simp only [List.setIfInBounds_toArray]
        try simp only [List.set]
        refine wpAnyH_ready (rs := [2]) (by kernel_rfl) (by simp) ?_
        refine AllReadyH.cons rfl (fun K hK => ?_) AllReadyH.nil
        go_simp
        go_wp2_with (fail)
        refine hK.out _ _ (hHeld.alloc _) (fun hHeld => ?_)
        clear hK K
        have hoB := ownsRow_below hoD ((Below.refl _ D).alloc (Nat.le_refl _) (.cells (rwE ⟨t, k, v, s⟩).toArray 26))
        try simp only [Act.put]
        try simp only [List.setIfInBounds_toArray]
        try simp only [List.set]
        refine wpAnyH_ready (rs := [3]) (by kernel_rfl) (by simp) ?_
        refine AllReadyH.cons rfl (fun K hK => ?_) AllReadyH.nil
        rw [if_pos (by kernel_rfl)]
        refine wp_append_sl elW _ _ _ rfl wr.heap.size v3 xs [⟨t, k, v, s⟩] (some ⟨D.heap.size, 0, none⟩) 1 1 rfl rfl rfl hoB (rs_one (enc := rwE) D ⟨t, k, v, s⟩ 26) ?m1 ?m2 ?_; rotate_left 2; intro v4 w4 ho4 hg4 _
        refine hK.out _ _ (hHeld.grow hg4 hlow3) (fun hHeld => ?_)
        clear hK K
        have hDA4 := hDA.below hHeld.g (Nat.le_refl _)
        have hlow4 : ∀ q, v4.ownBlock = some q → wr.heap.size ≤ q := fun q e => (World.ownsRow.lt ho4 q e).1
        clear hg4 hoB hoD
        try simp only [Act.put]
        try simp only [List.setIfInBounds_toArray]
        try simp only [List.set]
        refine wpAnyH_ready (rs := [7]) (by kernel_rfl) (by simp) ?_
        refine AllReadyH.cons rfl (fun K hK => ?_) AllReadyH.nil
        rw [if_pos (by kernel_rfl)]
        refine wp_append_sl elW _ _ _ rfl wr.heap.size v4 (xs ++ [⟨t, k, v, s⟩]) zs (some A) (n - j) (cap - j) rfl rfl HD1.out ho4 hDA4 ?m3 ?m4 ?_; rotate_left 2; intro v5 w5 ho5 hg5 _
        refine hK.out _ _ (hHeld.grow hg5 hlow4) (fun hHeld => ?_)
        clear hK K
        try simp only [Act.put]
        try simp only [List.setIfInBounds_toArray]
        try simp only [List.set]
        refine wpAnyH_take (i := 8) (v := ?v6) rfl (by kernel_rfl) (by kernel_rfl) (by kernel_rfl) (fun _ _ _ h => h) (Or.inl ⟨by kernel_rfl, ?h6⟩) hHeld ?_
        case h6 => intro u hSw; obtain ⟨⟨q0, q1, q2, q3⟩, _, _⟩ := hSw; dsimp only at q0 q1 q2 q3; go_simp; try with_reducible rfl
        try simp only [List.getElem_toArray]
        try simp only [List.getElem_cons_succ]
        try simp only [List.getElem_cons_zero]
        try simp only [Act.put]
        try simp only [List.setIfInBounds_toArray]
        try simp only [List.set]
        refine wpAnyH_done (by kernel_rfl) ?_ _

        case m1 => rw [HT1.out]; simp; omega
        case m2 => exact hHeld.g.size
        case m3 => rw [HD1.out, List.length_append, HT1.out]; simp; omega
        case m4 => exact hHeld.g.size
        obtain ⟨a5, c5, rfl, _, hin5, hnn5⟩ := SlIn.ofRow rwE_len ho5
        obtain ⟨g5, rfl⟩ : ∃ g5, a5 = some ⟨g5, 0, none⟩ := by
          have hpos : 0 < (xs ++ ([⟨t, k, v, s⟩] : List Rw) ++ zs).length := by simp; omega
          obtain ⟨_, ⟨h1, h2⟩ | ⟨gg, cc, cur, h1, _⟩⟩ := ho5
          · omega
          · cases h1; exact ⟨gg, rfl⟩
        have HO5 : Hid (w5.ownsRow wr.heap.size 26 4 (.slice (some ⟨g5, 0, none⟩) (xs ++ ([⟨t, k, v, s⟩] : List Rw) ++ zs).length c5) (xs ++ ([⟨t, k, v, s⟩] : List Rw) ++ zs).length (flat rwE (xs ++ ([⟨t, k, v, s⟩] : List Rw) ++ zs))) := ho5
        clear ho5 hin5 hnn5 ho4 hDA4 hlow4 hDA
        generalize xs ++ ([⟨t, k, v, s⟩] : List Rw) ++ zs = new at HP HO5 ⊢
        have gg5 := hHeld.g
        clear hHeld
        go_wp2_with fail
        go_ret
        exact ⟨_, _, new, rfl, HP.out, gw.trans (gg5.mono gw.size), ownsRow_base HO5.out (by omega)⟩
    · have hend : ∀ y, rs[j]? = some y → ¬ rLt y ⟨t, k, v, s⟩ := fun y hy => by
        have := (List.getElem?_eq_some_iff.1 hy).1
        rw [HN.out] at this
        omega
      have hjn : ¬ (j : Int) < (n : Int) := by omega
      go_upto_region 4 with (fail)
      clear hlt
      have HT1 : Hid ((rs.take j).length = j) := by show _ = _; rw [List.length_take, HN.out]; omega
      have hT : Rs rwE 4 wr (some ⟨g, 0, none⟩) (rs.take j) := hRj.take j
      have hD := hRj.drop j
      rw [Nat.zero_add] at hD
      have HD1 : Hid ((rs.drop j).length = n - j) := by show _ = _; rw [List.length_drop, HN.out]
      have HP : Hid (PutAt rs ⟨t, k, v, s⟩ (rs.take j ++ [⟨t, k, v, s⟩] ++ rs.drop j)) := ⟨j, by rw [HN.out]; exact hj, hbef, hend, rfl⟩
      generalize rs.take j = xs at hT HT1 HP
      generalize rs.drop j = zs at hD HD1 HP
      have hwl := Nat.lt_of_lt_of_le hlX gr.size
      have gw := gX.trans (gr.mono gX.size)
      have hT2 := hT.below ((Below.refl wr.heap.size wr).alloc (Nat.le_refl _) (.cells #[] 26)) (Nat.le_refl _)
      have hL : (wr.alloc (.cells #[] 26)).ownsRow wr.heap.size 26 4 (.slice (some ⟨wr.heap.size, 0, none⟩) 0 0) ([] : List Rw).length (flat rwE []) := ownsRow_lit0 wr 26 4
      have hn1 : Hid (([] : List Rw).length + xs.length ≤ 100000000) := by show _ ≤ _; rw [HT1.out, List.length_nil]; omega
      have hn2 : Hid (wr.heap.size ≤ (wr.alloc (.cells #[] 26)).heap.size) := by show _ ≤ _; simp
      go_wp2_with (at_builtin; refine wpList_append_sl elW _ rfl _ _ rfl wr.heap.size _ [] xs (some ⟨g, 0, none⟩) j cap rfl rfl HT1.out hL hT2 hn1.out hn2.out ?_)
      intro v3 w3 ho3 hg3 _
      have hG : Below wr.heap.size wr w3 := Below.grown (((Below.refl wr.heap.size wr).alloc (Nat.le_refl _) (.cells #[] 26))) hg3 (by simp) (fun q e => (World.ownsRow.lt hL q e).1)
      have hS : LpS w.heap.size wr ⟨t, k, v, s⟩ w3 := ⟨hX.below hG hwl, hG, hwl⟩
      obtain ⟨A, hA, hDA⟩ : ∃ A, (if cap = j then some (⟨g, 0, none⟩ : Addr) else some ⟨g, j * 4, none⟩) = some A ∧ Rs rwE 4 wr (some A) zs := by
        by_cases hc : cap = j
        · exact ⟨_, if_pos hc, .inl (List.length_eq_zero_iff.1 (by rw [HD1.out]; omega))⟩
        · exact ⟨_, if_neg hc, hD⟩
      have hjl : j ≤ n := hj
      have hlow3 : ∀ q, v3.ownBlock = some q → wr.heap.size ≤ q := fun q e => (World.ownsRow.lt ho3 q e).1
      have ho3 : w3.ownsRow wr.heap.size 26 4 v3 xs.length (flat rwE xs) := ho3
      clear hT2 hL hg3 hX hRj hT hG
      go_upto_region 5 with (fail)
      refine wp_region_held_drew (S := LpS w.heap.size wr ⟨t, k, v, s⟩) (by kernel_rfl) hS.drew (fun hHeld => ?_)
      have hoD := ownsRow_below ho3 (Below.refl _ w3).drew
      clear hS ho3
      generalize w3.drew = D at hHeld hoD ⊢
      refine wpAnyH_take (i := 0) (v := ?v1b) rfl (by kernel_rfl) (by kernel_rfl) (by kernel_rfl) (fun _ _ _ h => h) (Or.inl ⟨by kernel_rfl, ?h1b⟩) hHeld ?_
      case h1b => intro u hSw; obtain ⟨⟨q0, q1, q2, q3⟩, _, _⟩ := hSw; dsimp only at q0 q1 q2 q3; go_simp; try with_reducible rfl
      try simp only [List.getElem_toArray]
      try simp only [List.getElem_cons_succ]
      try simp only [List.getElem_cons_zero]
      try simp only [Act.put]
      try simp only [List.setIfInBounds_toArray]
      try simp only [List.set]
      refine wpAnyH_take (i := 1) (v := ?v2b) rfl (by kernel_rfl) (by kernel_rfl) (by kernel_rfl) (fun _ _ _ h => h) (Or.inl ⟨by kernel_rfl, ?h2b⟩) hHeld ?_
      case h2b => intro u hSw; obtain ⟨⟨q0, q1, q2, q3⟩, _, _⟩ := hSw; dsimp only at q0 q1 q2 q3; go_simp; try with_reducible rfl
      try simp only [List.getElem_toArray]
      try simp only [List.getElem_cons_succ]
      try simp only [List.getElem_cons_zero]
      try simp only [Act.put]
      try simp only [List.setIfInBounds_toArray]
      try simp only [List.set]
      refine wpAnyH_take (i := 4) (v := ?v3b) rfl (by kernel_rfl) (by kernel_rfl) (by kernel_rfl) (fun _ _ _ h => h) (Or.inl ⟨by kernel_rfl, ?h3b⟩) hHeld ?_
      case h3b => intro u hSw; obtain ⟨⟨q0, q1, q2, q3⟩, _, _⟩ := hSw; dsimp only at q0 q1 q2 q3; go_simp; try with_reducible rfl
      try simp only [List.getElem_toArray]
      try simp only [List.getElem_cons_succ]
      try simp only [List.getElem_cons_zero]
      try simp only [Act.put]
      try simp only [List.setIfInBounds_toArray]
      try simp only [List.set]
      refine wpAnyH_take (i := 5) (v := ?v4b) rfl (by kernel_rfl) (by kernel_rfl) (by kernel_rfl) (fun _ _ _ h => h) (Or.inl ⟨by kernel_rfl, ?h4b⟩) hHeld ?_
      case h4b => intro u hSw; obtain ⟨⟨q0, q1, q2, q3⟩, _, _⟩ := hSw; dsimp only at q0 q1 q2 q3; go_simp; try with_reducible rfl
      try simp only [List.getElem_toArray]
      try simp only [List.getElem_cons_succ]
      try simp only [List.getElem_cons_zero]
      try simp only [Act.put]
      try simp only [List.setIfInBounds_toArray]
      try simp only [List.set]
      refine wpAnyH_take (i := 6) (v := ?v5b) rfl (by kernel_rfl) (by kernel_rfl) (by kernel_rfl) (fun _ _ _ h => h) (Or.inl ⟨by kernel_rfl, ?h5b⟩) hHeld ?_
      case h5b => intro u hSw; obtain ⟨⟨q0, q1, q2, q3⟩, _, _⟩ := hSw; dsimp only at q0 q1 q2 q3; go_simp; try with_reducible rfl
      try simp only [List.getElem_toArray]
      try simp only [List.getElem_cons_succ]
      try simp only [List.getElem_cons_zero]
      try simp only [Act.put]
      try simp only [List.setIfInBounds_toArray]
      try simp only [List.set]
      refine wpAnyH_ready (rs := [2]) (by kernel_rfl) (by simp) ?_
      refine AllReadyH.cons rfl (fun K hK => ?_) AllReadyH.nil
      go_simp
      go_wp2_with (fail)
      refine hK.out _ _ (hHeld.alloc _) (fun hHeld => ?_)
      clear hK K
      have hoB := ownsRow_below hoD ((Below.refl _ D).alloc (Nat.le_refl _) (.cells (rwE ⟨t, k, v, s⟩).toArray 26))
      try simp only [Act.put]
      try simp only [List.setIfInBounds_toArray]
      try simp only [List.set]
      refine wpAnyH_ready (rs := [3]) (by kernel_rfl) (by simp) ?_
      refine AllReadyH.cons rfl (fun K hK => ?_) AllReadyH.nil
      rw [if_pos (by kernel_rfl)]
      refine wp_append_sl elW _ _ _ rfl wr.heap.size v3 xs [⟨t, k, v, s⟩] (some ⟨D.heap.size, 0, none⟩) 1 1 rfl rfl rfl hoB (rs_one (enc := rwE) D ⟨t, k, v, s⟩ 26) ?m1b ?m2b ?_; rotate_left 2; intro v4 w4 ho4 hg4 _
      refine hK.out _ _ (hHeld.grow hg4 hlow3) (fun hHeld => ?_)
      clear hK K
      have hDA4 := hDA.below hHeld.g (Nat.le_refl _)
      have hlow4 : ∀ q, v4.ownBlock = some q → wr.heap.size ≤ q := fun q e => (World.ownsRow.lt ho4 q e).1
      clear hg4 hoB hoD
      try simp only [Act.put]
      try simp only [List.setIfInBounds_toArray]
      try simp only [List.set]
      refine wpAnyH_ready (rs := [7]) (by kernel_rfl) (by simp) ?_
      refine AllReadyH.cons rfl (fun K hK => ?_) AllReadyH.nil
      rw [if_pos (by kernel_rfl)]
      refine wp_append_sl elW _ _ _ rfl wr.heap.size v4 (xs ++ [⟨t, k, v, s⟩]) zs (some A) (n - j) (cap - j) rfl rfl HD1.out ho4 hDA4 ?m3b ?m4b ?_; rotate_left 2; intro v5 w5 ho5 hg5 _
      refine hK.out _ _ (hHeld.grow hg5 hlow4) (fun hHeld => ?_)
      clear hK K
      try simp only [Act.put]
      try simp only [List.setIfInBounds_toArray]
      try simp only [List.set]
      refine wpAnyH_take (i := 8) (v := ?v6b) rfl (by kernel_rfl) (by kernel_rfl) (by kernel_rfl) (fun _ _ _ h => h) (Or.inl ⟨by kernel_rfl, ?h6b⟩) hHeld ?_
      case h6b => intro u hSw; obtain ⟨⟨q0, q1, q2, q3⟩, _, _⟩ := hSw; dsimp only at q0 q1 q2 q3; go_simp; try with_reducible rfl
      try simp only [List.getElem_toArray]
      try simp only [List.getElem_cons_succ]
      try simp only [List.getElem_cons_zero]
      try simp only [Act.put]
      try simp only [List.setIfInBounds_toArray]
      try simp only [List.set]
      refine wpAnyH_done (by kernel_rfl) ?_ _

      case m1b => rw [HT1.out]; simp; omega
      case m2b => exact hHeld.g.size
      case m3b => rw [HD1.out, List.length_append, HT1.out]; simp; omega
      case m4b => exact hHeld.g.size
      obtain ⟨a5, c5, rfl, _, hin5, hnn5⟩ := SlIn.ofRow rwE_len ho5
      obtain ⟨g5, rfl⟩ : ∃ g5, a5 = some ⟨g5, 0, none⟩ := by
        have hpos : 0 < (xs ++ ([⟨t, k, v, s⟩] : List Rw) ++ zs).length := by simp; omega
        obtain ⟨_, ⟨h1, h2⟩ | ⟨gg, cc, cur, h1, _⟩⟩ := ho5
        · omega
        · cases h1; exact ⟨gg, rfl⟩
      have HO5 : Hid (w5.ownsRow wr.heap.size 26 4 (.slice (some ⟨g5, 0, none⟩) (xs ++ ([⟨t, k, v, s⟩] : List Rw) ++ zs).length c5) (xs ++ ([⟨t, k, v, s⟩] : List Rw) ++ zs).length (flat rwE (xs ++ ([⟨t, k, v, s⟩] : List Rw) ++ zs))) := ho5
      clear ho5 hin5 hnn5 ho4 hDA4 hlow4 hDA
      generalize xs ++ ([⟨t, k, v, s⟩] : List Rw) ++ zs = new at HP HO5 ⊢
      have gg5 := hHeld.g
      clear hHeld
      go_wp2_with fail
      go_ret
      exact ⟨_, _, new, rfl, HP.out, gw.trans (gg5.mono gw.size), ownsRow_base HO5.out (by omega)⟩

end Go.Proofs.Ytmbllmhpnopbdaa
