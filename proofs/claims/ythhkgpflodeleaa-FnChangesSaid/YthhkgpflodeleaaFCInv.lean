/-
  Changes taken back: plain facts; slices.Reverse; inverseOf.
-/
import Derived.Test.YthhkgpflodeleaaFCShg
import Derived.Test.YthhkgpflodeleaaFCPit
import Derived.Test.YthhkgpflodeleaaFCChg
import Derived.Test.YthhkgpflodeleaaFCFci
import Derived.Deep.RegionHeld

namespace Go.Proofs.Ythhkgpflodeleaa
open Go.RowKit Go.Maps
set_option linter.unusedVariables false
set_option maxRecDepth 20000

/-- A change taken back; the first code of changes alone; the code and the changes of InverseOf. -/
def inv (c : Chg) : Chg := ⟨c.is, c.a, c.was, c.b⟩
def alF : List Chg → Int
  | [] => 0
  | c :: cs => if alQ c = 0 then alF cs else alQ c
def ivQ (cs : List Chg) : Int := if 60 < cs.length then 2 else alF cs
def ivL (cs : List Chg) : List Chg := if ivQ cs = 0 then (cs.map inv).reverse else []
theorem alF_all : ∀ {cs : List Chg}, (∀ y ∈ cs, alQ y = 0) → alF cs = 0
  | [], _ => rfl
  | c :: cs, h => by
    unfold alF
    rw [if_pos (h c (by simp))]
    exact alF_all (fun y hy => h y (by simp [hy]))
theorem alF_at : ∀ {cs : List Chg} {j : Nat} {x : Chg}, (∀ y ∈ cs.take j, alQ y = 0) → cs[j]? = some x → alQ x ≠ 0 → alF cs = alQ x
  | [], j, x, _, hx, _ => by simp at hx
  | c :: cs, 0, x, _, hx, hq => by
    simp at hx
    subst hx
    unfold alF
    rw [if_neg hq]
  | c :: cs, j + 1, x, h, hx, hq => by
    unfold alF
    rw [if_pos (h c (by simp))]
    exact alF_at (j := j) (fun y hy => h y (by simp [hy])) (by simpa using hx) hq
/-- A list that was turned round so far from both ends. -/
def RvI (L M : List Chg) (i : Nat) : Prop := M.length = L.length ∧ ∀ k, k < L.length → M[k]? = if k < i ∨ L.length - 1 - k < i then L[L.length - 1 - k]? else L[k]?
theorem RvI.zero (L : List Chg) : RvI L L 0 := ⟨rfl, fun k hk => by rw [if_neg (by omega)]⟩
theorem RvI.step {L M : List Chg} {i j : Nat} {x y : Chg} (h : RvI L M i) (hj : i + j + 1 = L.length) (hij : i < j) (hx : M[i]? = some x) (hy : M[j]? = some y) : RvI L ((M.set i y).set j x) (i + 1) := by
  obtain ⟨hl, hM⟩ := h
  refine ⟨by simp [hl], fun k hk => ?_⟩
  by_cases e1 : k = j
  · subst e1
    rw [List.getElem?_set_self (by simp; omega), if_pos (by omega), show L.length - 1 - k = i by omega, ← hx, hM i (by omega), if_neg (by omega)]
  · rw [List.getElem?_set_ne (by omega)]
    by_cases e2 : k = i
    · subst e2
      rw [List.getElem?_set_self (by omega), if_pos (by omega), show L.length - 1 - k = j by omega, ← hy, hM j (by omega), if_neg (by omega)]
    · rw [List.getElem?_set_ne (by omega), hM k hk]
      by_cases e3 : k < i ∨ L.length - 1 - k < i
      · rw [if_pos e3, if_pos (by omega)]
      · rw [if_neg e3, if_neg (by omega)]
theorem RvI.done {L M : List Chg} {i : Nat} (h : RvI L M i) (hi : L.length ≤ 2 * i + 1) : M = L.reverse := by
  obtain ⟨hl, hM⟩ := h
  refine List.ext_getElem? (fun k => ?_)
  by_cases hk : k < L.length
  · rw [hM k hk, List.getElem?_reverse hk]
    by_cases e : k < i ∨ L.length - 1 - k < i
    · rw [if_pos e]
    · rw [if_neg e, show L.length - 1 - k = k by omega]
  · rw [List.getElem?_eq_none (by omega), List.getElem?_eq_none (by simp; omega)]

theorem SlIn.putC {lo hi b off i : Nat} {w : World} {xs : List Chg} {x : Chg} (h : SlIn chE 10 lo hi w (some ⟨b, off, none⟩) xs) (hx : xs[i]? = some x) (y : Chg) : SlIn chE 10 lo hi (put10 w b (off + i * 10) y) (some ⟨b, off, none⟩) (xs.set i y) := by
  have hil : i < xs.length := (List.getElem?_eq_some_iff.1 hx).1
  have S1 := h.setG chE_len (x' := ⟨y.was, ⟨x.b.t, x.b.k, x.b.v, x.b.s⟩, x.is, ⟨x.a.t, x.a.k, x.a.v, x.a.s⟩⟩) (c := 0) (v := .bool y.was) hx (by omega) rfl
  have S2 := S1.setG chE_len (x' := ⟨y.was, ⟨y.b.t, x.b.k, x.b.v, x.b.s⟩, x.is, ⟨x.a.t, x.a.k, x.a.v, x.a.s⟩⟩) (c := 1) (v := .int .i64 y.b.t) (List.getElem?_set_self hil) (by omega) rfl
  rw [List.set_set] at S2
  have S3 := S2.setG chE_len (x' := ⟨y.was, ⟨y.b.t, y.b.k, x.b.v, x.b.s⟩, x.is, ⟨x.a.t, x.a.k, x.a.v, x.a.s⟩⟩) (c := 2) (v := .int .i64 y.b.k) (List.getElem?_set_self hil) (by omega) rfl
  rw [List.set_set] at S3
  have S4 := S3.setG chE_len (x' := ⟨y.was, ⟨y.b.t, y.b.k, y.b.v, x.b.s⟩, x.is, ⟨x.a.t, x.a.k, x.a.v, x.a.s⟩⟩) (c := 3) (v := .int .i64 y.b.v) (List.getElem?_set_self hil) (by omega) rfl
  rw [List.set_set] at S4
  have S5 := S4.setG chE_len (x' := ⟨y.was, ⟨y.b.t, y.b.k, y.b.v, y.b.s⟩, x.is, ⟨x.a.t, x.a.k, x.a.v, x.a.s⟩⟩) (c := 4) (v := .string y.b.s) (List.getElem?_set_self hil) (by omega) rfl
  rw [List.set_set] at S5
  have S6 := S5.setG chE_len (x' := ⟨y.was, ⟨y.b.t, y.b.k, y.b.v, y.b.s⟩, y.is, ⟨x.a.t, x.a.k, x.a.v, x.a.s⟩⟩) (c := 5) (v := .bool y.is) (List.getElem?_set_self hil) (by omega) rfl
  rw [List.set_set] at S6
  have S7 := S6.setG chE_len (x' := ⟨y.was, ⟨y.b.t, y.b.k, y.b.v, y.b.s⟩, y.is, ⟨y.a.t, x.a.k, x.a.v, x.a.s⟩⟩) (c := 6) (v := .int .i64 y.a.t) (List.getElem?_set_self hil) (by omega) rfl
  rw [List.set_set] at S7
  have S8 := S7.setG chE_len (x' := ⟨y.was, ⟨y.b.t, y.b.k, y.b.v, y.b.s⟩, y.is, ⟨y.a.t, y.a.k, x.a.v, x.a.s⟩⟩) (c := 7) (v := .int .i64 y.a.k) (List.getElem?_set_self hil) (by omega) rfl
  rw [List.set_set] at S8
  have S9 := S8.setG chE_len (x' := ⟨y.was, ⟨y.b.t, y.b.k, y.b.v, y.b.s⟩, y.is, ⟨y.a.t, y.a.k, y.a.v, x.a.s⟩⟩) (c := 8) (v := .int .i64 y.a.v) (List.getElem?_set_self hil) (by omega) rfl
  rw [List.set_set] at S9
  have S10 := S9.setG chE_len (x' := ⟨y.was, ⟨y.b.t, y.b.k, y.b.v, y.b.s⟩, y.is, ⟨y.a.t, y.a.k, y.a.v, y.a.s⟩⟩) (c := 9) (v := .string y.a.s) (List.getElem?_set_self hil) (by omega) rfl
  rw [List.set_set] at S10
  exact S10
set_option maxHeartbeats 1000000 in
theorem turned10 {lo hi b o : Nat} {w : World} (h1 : lo ≤ b) (h2 : b < hi) (y : Chg) : Turned lo hi w (put10 w b o y) := by
  unfold put10
  exact ((((((((((Turned.refl _ _ w).setCell (p := ⟨b, o, none⟩) h1 h2 _).setCell (p := ⟨b, o + 1, none⟩) h1 h2 _).setCell (p := ⟨b, o + 2, none⟩) h1 h2 _).setCell (p := ⟨b, o + 3, none⟩) h1 h2 _).setCell (p := ⟨b, o + 4, none⟩) h1 h2 _).setCell (p := ⟨b, o + 5, none⟩) h1 h2 _).setCell (p := ⟨b, o + 6, none⟩) h1 h2 _).setCell (p := ⟨b, o + 7, none⟩) h1 h2 _).setCell (p := ⟨b, o + 8, none⟩) h1 h2 _).setCell (p := ⟨b, o + 9, none⟩) h1 h2 _

set_option maxHeartbeats 400000 in
theorem reverse_nil (a : Option Addr) (c : Nat) (w : World) : Calls Try.prog 29 #[.slice a 0 c] w fun e w' => e = .returned (.tuple #[]) ∧ w' = w := by
  go_enter Try.func29, Try.ntmps29
  go_wp2_with fail
  go_rounds 1
  (try simp only [Exit.inBlock, Exit.then]); refine bodyPost_end (results_none rfl _ _ _) rfl ?_
  exact ⟨rfl, rfl⟩

set_option maxHeartbeats 8000000 in
theorem reverse_any (b off lo hi : Nat) (L : List Chg) (n c : Nat) (w : World) (hn : L.length = n) (hm : n ≤ 1000) (h0 : 0 < n) (h : SlIn chE 10 lo hi w (some ⟨b, off, none⟩) L) :
    Calls Try.prog 29 #[.slice (some ⟨b, off, none⟩) n c] w fun e w' => e = .returned (.tuple #[]) ∧ Turned lo hi w w' ∧ SlIn chE 10 lo hi w' (some ⟨b, off, none⟩) L.reverse := by
  have HN : Hid (L.length = n) := hn
  clear hn
  have e0 : ((n : Int) - 1) = ((n - 1 : Nat) : Int) := by omega
  go_enter Try.func29, Try.ntmps29
  go_wp2_with fail
  go_loopw [2, 3] (fun i j wr => ∃ (m jn : Nat) (M : List Chg), m + jn + 1 = n ∧ i = .int .i64 m ∧ j = .int .i64 jn ∧ Hid (RvI L M m) ∧ Turned lo hi w wr ∧ SlIn chE 10 lo hi wr (some ⟨b, off, none⟩) M) (fun i j _ => n - (intOf i).toNat)
  case atStart => exact ⟨0, n - 1, L, by omega, rfl, rfl, RvI.zero L, Turned.refl _ _ _, h⟩
  case round =>
    obtain ⟨m, jn, M, hmj, rfl, rfl, HR, hT, hS⟩ := hrel
    clear h e0
    by_cases hmlt : m < jn
    · have hlt : (m : Int) < (jn : Int) := by omega
      have hmn : (m : Int) < (n : Int) := by omega
      have hjn : (jn : Int) < (n : Int) := by omega
      have hMl : M.length = n := by rw [HR.out.1]; exact HN.out
      obtain ⟨x, hx⟩ : ∃ x, M[m]? = some x := ⟨_, List.getElem?_eq_getElem (by omega)⟩
      obtain ⟨y, hy⟩ : ∃ y, M[jn]? = some y := ⟨_, List.getElem?_eq_getElem (by omega)⟩
      clear hMl
      obtain ⟨x0, ⟨xt, xk, xv, xs⟩, x5, ⟨yt, yk, yv, ys⟩⟩ := x
      obtain ⟨p0, ⟨pt, pk, pv, ps⟩, p5, ⟨qt, qk, qv, qs⟩⟩ := y
      go_upto_region 3 with (fail)
      have hT : Turned lo hi w wr.drew := hT.trans (Turned.ofBelow (Below.refl _ wr).drew)
      have hS : SlIn chE 10 lo hi wr.drew (some ⟨b, off, none⟩) M := hS.below (Below.refl _ wr).drew
      refine wp_region_held_drew (S := fun _ => True) (by kernel_rfl) trivial (fun hHeld => ?_)
      generalize wr.drew = D0 at hT hS ⊢
      obtain ⟨hlo, hhi, ⟨cx0, cx1, cx2, cx3, cx4, cx5, cx6, cx7, cx8, cx9⟩, hf⟩ := hS.at10 hx
      obtain ⟨-, -, ⟨cy0, cy1, cy2, cy3, cy4, cy5, cy6, cy7, cy8, cy9⟩, -⟩ := hS.at10 hy
      dsimp only at cx0 cx1 cx2 cx3 cx4 cx5 cx6 cx7 cx8 cx9 cy0 cy1 cy2 cy3 cy4 cy5 cy6 cy7 cy8 cy9
      have fx0 := hf 0 (by omega)
      have fx1 := hf 1 (by omega)
      have fx2 := hf 2 (by omega)
      have fx3 := hf 3 (by omega)
      have fx4 := hf 4 (by omega)
      have fx5 := hf 5 (by omega)
      have fx6 := hf 6 (by omega)
      have fx7 := hf 7 (by omega)
      have fx8 := hf 8 (by omega)
      have fx9 := hf 9 (by omega)
      simp only [Nat.add_zero] at fx0
      clear hf
      refine wpAnyH_take (i := 0) (v := ?v1) rfl (by kernel_rfl) (by kernel_rfl) (by kernel_rfl) (fun _ _ _ h => h) (Or.inl ⟨by kernel_rfl, ?h1⟩) hHeld ?_
      case h1 => intro u hSw; clear hSw; go_simp; try with_reducible rfl
      try simp only [List.getElem_toArray]
      try simp only [List.getElem_cons_succ]
      try simp only [List.getElem_cons_zero]
      try simp only [Act.put]
      try simp only [List.setIfInBounds_toArray]
      try simp only [List.set]
      refine wpAnyH_take (i := 1) (v := ?v2) rfl (by kernel_rfl) (by kernel_rfl) (by kernel_rfl) (fun _ _ _ h => h) (Or.inl ⟨by kernel_rfl, ?h2⟩) hHeld ?_
      case h2 => intro u hSw; clear hSw; go_simp; try with_reducible rfl
      try simp only [List.getElem_toArray]
      try simp only [List.getElem_cons_succ]
      try simp only [List.getElem_cons_zero]
      try simp only [Act.put]
      try simp only [List.setIfInBounds_toArray]
      try simp only [List.set]
      refine wpAnyH_take (i := 2) (v := ?v3) rfl (by kernel_rfl) (by kernel_rfl) (by kernel_rfl) (fun _ _ _ h => h) (Or.inl ⟨by kernel_rfl, ?h3⟩) hHeld ?_
      case h3 => intro u hSw; clear hSw; go_simp; try with_reducible rfl
      try simp only [List.getElem_toArray]
      try simp only [List.getElem_cons_succ]
      try simp only [List.getElem_cons_zero]
      try simp only [Act.put]
      try simp only [List.setIfInBounds_toArray]
      try simp only [List.set]
      refine wpAnyH_take (i := 3) (v := ?v4) rfl (by kernel_rfl) (by kernel_rfl) (by kernel_rfl) (fun _ _ _ h => h) (Or.inl ⟨by kernel_rfl, ?h4⟩) hHeld ?_
      case h4 => intro u hSw; clear hSw; go_simp; try with_reducible rfl
      try simp only [List.getElem_toArray]
      try simp only [List.getElem_cons_succ]
      try simp only [List.getElem_cons_zero]
      try simp only [Act.put]
      try simp only [List.setIfInBounds_toArray]
      try simp only [List.set]
      refine wpAnyH_take (i := 4) (v := ?v5) rfl (by kernel_rfl) (by kernel_rfl) (by kernel_rfl) (fun _ _ _ h => h) (Or.inl ⟨by kernel_rfl, ?h5⟩) hHeld ?_
      case h5 => intro u hSw; clear hSw; go_simp; try with_reducible rfl
      try simp only [List.getElem_toArray]
      try simp only [List.getElem_cons_succ]
      try simp only [List.getElem_cons_zero]
      try simp only [Act.put]
      try simp only [List.setIfInBounds_toArray]
      try simp only [List.set]
      refine wpAnyH_take (i := 5) (v := ?v6) rfl (by kernel_rfl) (by kernel_rfl) (by kernel_rfl) (fun _ _ _ h => h) (Or.inl ⟨by kernel_rfl, ?h6⟩) hHeld ?_
      case h6 => intro u hSw; clear hSw; go_simp; try with_reducible rfl
      try simp only [List.getElem_toArray]
      try simp only [List.getElem_cons_succ]
      try simp only [List.getElem_cons_zero]
      try simp only [Act.put]
      try simp only [List.setIfInBounds_toArray]
      try simp only [List.set]
      refine wpAnyH_take (i := 8) (v := ?v7) rfl (by kernel_rfl) (by kernel_rfl) (by kernel_rfl) (fun _ _ _ h => h) (Or.inl ⟨by kernel_rfl, ?h7⟩) hHeld ?_
      case h7 => intro u hSw; clear hSw; go_simp; try with_reducible rfl
      try simp only [List.getElem_toArray]
      try simp only [List.getElem_cons_succ]
      try simp only [List.getElem_cons_zero]
      try simp only [Act.put]
      try simp only [List.setIfInBounds_toArray]
      try simp only [List.set]
      refine wpAnyH_take (i := 9) (v := ?v8) rfl (by kernel_rfl) (by kernel_rfl) (by kernel_rfl) (fun _ _ _ h => h) (Or.inl ⟨by kernel_rfl, ?h8⟩) hHeld ?_
      case h8 => intro u hSw; clear hSw; go_simp; try with_reducible rfl
      try simp only [List.getElem_toArray]
      try simp only [List.getElem_cons_succ]
      try simp only [List.getElem_cons_zero]
      try simp only [Act.put]
      try simp only [List.setIfInBounds_toArray]
      try simp only [List.set]
      refine wpAnyH_take (i := 6) (v := ?v9) rfl (by kernel_rfl) (by kernel_rfl) (by kernel_rfl) (fun _ _ _ h => h) (Or.inl ⟨by kernel_rfl, ?h9⟩) hHeld ?_
      case h9 => intro u hSw; clear hSw; go_simp; try with_reducible rfl
      try simp only [List.getElem_toArray]
      try simp only [List.getElem_cons_succ]
      try simp only [List.getElem_cons_zero]
      try simp only [Act.put]
      try simp only [List.setIfInBounds_toArray]
      try simp only [List.set]
      refine wpAnyH_take (i := 10) (v := ?v10) rfl (by kernel_rfl) (by kernel_rfl) (by kernel_rfl) (fun _ _ _ h => h) (Or.inl ⟨by kernel_rfl, ?h10⟩) hHeld ?_
      case h10 => intro u hSw; clear hSw; go_simp; try with_reducible rfl
      try simp only [List.getElem_toArray]
      try simp only [List.getElem_cons_succ]
      try simp only [List.getElem_cons_zero]
      try simp only [Act.put]
      try simp only [List.setIfInBounds_toArray]
      try simp only [List.set]
      refine wpAnyH_ready (rs := [7, 11]) (by kernel_rfl) (by simp) ?_
      refine AllReadyH.cons rfl (fun K hK => ?_) (AllReadyH.cons rfl (fun K hK => ?_) AllReadyH.nil)
      · go_simp
        refine hK.out _ _ trivial (fun hHeld => ?_)
        clear hK K
        try simp only [List.getElem_toArray]
        try simp only [List.getElem_cons_succ]
        try simp only [List.getElem_cons_zero]
        try simp only [Act.put]
        try simp only [List.setIfInBounds_toArray]
        try simp only [List.set]
        refine wpAnyH_ready (rs := [11]) (by kernel_rfl) (by simp) ?_
        refine AllReadyH.cons rfl (fun K hK => ?_) AllReadyH.nil
        go_simp
        refine hK.out _ _ trivial (fun hHeld => ?_)
        clear hK K
        try simp only [List.getElem_toArray]
        try simp only [List.getElem_cons_succ]
        try simp only [List.getElem_cons_zero]
        try simp only [Act.put]
        try simp only [List.setIfInBounds_toArray]
        try simp only [List.set]
        refine wpAnyH_take (i := 12) (v := ?v11) rfl (by kernel_rfl) (by kernel_rfl) (by kernel_rfl) (fun _ _ _ h => h) (Or.inl ⟨by kernel_rfl, ?h11⟩) hHeld ?_
        case h11 => intro u hSw; clear hSw; go_simp; try with_reducible rfl
        try simp only [List.getElem_toArray]
        try simp only [List.getElem_cons_succ]
        try simp only [List.getElem_cons_zero]
        try simp only [Act.put]
        try simp only [List.setIfInBounds_toArray]
        try simp only [List.set]
        refine wpAnyH_ready (rs := [13]) (by kernel_rfl) (by simp) ?_
        refine AllReadyH.cons rfl (fun K hK => ?_) AllReadyH.nil
        go_simp
        refine hK.out _ _ trivial (fun hHeld => ?_)
        clear hK K
        have S1 := hS.putC hx ⟨p0, ⟨pt, pk, pv, ps⟩, p5, ⟨qt, qk, qv, qs⟩⟩
        have T1 : Turned lo hi w (put10 D0 b (off + m * 10) ⟨p0, ⟨pt, pk, pv, ps⟩, p5, ⟨qt, qk, qv, qs⟩⟩) := hT.trans (turned10 hlo hhi _)
        have hz1 : (M.set m ⟨p0, ⟨pt, pk, pv, ps⟩, p5, ⟨qt, qk, qv, qs⟩⟩)[jn]? = some ⟨p0, ⟨pt, pk, pv, ps⟩, p5, ⟨qt, qk, qv, qs⟩⟩ := by rw [List.getElem?_set_ne (by omega)]; exact hy
        unfold put10 at S1 T1
        dsimp only at S1 T1
        clear cx0 cx1 cx2 cx3 cx4 cx5 cx6 cx7 cx8 cx9 cy0 cy1 cy2 cy3 cy4 cy5 cy6 cy7 cy8 cy9 fx0 fx1 fx2 fx3 fx4 fx5 fx6 fx7 fx8 fx9 hS hT
        generalize World.setCell _ _ _ = V1 at S1 T1 ⊢
        obtain ⟨-, -, ⟨cy0, cy1, cy2, cy3, cy4, cy5, cy6, cy7, cy8, cy9⟩, hf⟩ := S1.at10 hz1
        dsimp only at cy0 cy1 cy2 cy3 cy4 cy5 cy6 cy7 cy8 cy9
        have fy0 := hf 0 (by omega)
        have fy1 := hf 1 (by omega)
        have fy2 := hf 2 (by omega)
        have fy3 := hf 3 (by omega)
        have fy4 := hf 4 (by omega)
        have fy5 := hf 5 (by omega)
        have fy6 := hf 6 (by omega)
        have fy7 := hf 7 (by omega)
        have fy8 := hf 8 (by omega)
        have fy9 := hf 9 (by omega)
        simp only [Nat.add_zero] at fy0
        clear hf
        try simp only [Act.put]
        try simp only [List.setIfInBounds_toArray]
        try simp only [List.set]
        refine wpAnyH_take (i := 14) (v := ?v12) rfl (by kernel_rfl) (by kernel_rfl) (by kernel_rfl) (fun _ _ _ h => h) (Or.inl ⟨by kernel_rfl, ?h12⟩) hHeld ?_
        case h12 => intro u hSw; clear hSw; go_simp; try with_reducible rfl
        try simp only [List.getElem_toArray]
        try simp only [List.getElem_cons_succ]
        try simp only [List.getElem_cons_zero]
        try simp only [Act.put]
        try simp only [List.setIfInBounds_toArray]
        try simp only [List.set]
        refine wpAnyH_ready (rs := [15]) (by kernel_rfl) (by simp) ?_
        refine AllReadyH.cons rfl (fun K hK => ?_) AllReadyH.nil
        go_simp
        refine hK.out _ _ trivial (fun hHeld => ?_)
        clear hK K
        have S2 := S1.putC hz1 ⟨x0, ⟨xt, xk, xv, xs⟩, x5, ⟨yt, yk, yv, ys⟩⟩
        have T2 : Turned lo hi w (put10 V1 b (off + jn * 10) ⟨x0, ⟨xt, xk, xv, xs⟩, x5, ⟨yt, yk, yv, ys⟩⟩) := T1.trans (turned10 hlo hhi _)
        unfold put10 at S2 T2
        dsimp only at S2 T2
        clear cy0 cy1 cy2 cy3 cy4 cy5 cy6 cy7 cy8 cy9 fy0 fy1 fy2 fy3 fy4 fy5 fy6 fy7 fy8 fy9 S1 T1
        generalize World.setCell _ _ _ = V2 at S2 T2 ⊢
        try simp only [Act.put]
        try simp only [List.setIfInBounds_toArray]
        try simp only [List.set]
        refine wpAnyH_done (by kernel_rfl) ?_ _
        have HR2 := HR.out.step (by rw [HN.out]; exact hmj) hmlt hx hy
        clear hx hy hz1
        have ej : ((jn : Int) - 1) = ((jn - 1 : Nat) : Int) := by omega
        go_wp2_with fail
        go_roundw
        case rel => exact ⟨m + 1, jn - 1, _, by omega, by go_num, rfl, HR2, T2, S2⟩
        case measure => simp [intOf]; omega
      · go_simp
        refine hK.out _ _ trivial (fun hHeld => ?_)
        clear hK K
        try simp only [List.getElem_toArray]
        try simp only [List.getElem_cons_succ]
        try simp only [List.getElem_cons_zero]
        try simp only [Act.put]
        try simp only [List.setIfInBounds_toArray]
        try simp only [List.set]
        refine wpAnyH_ready (rs := [7]) (by kernel_rfl) (by simp) ?_
        refine AllReadyH.cons rfl (fun K hK => ?_) AllReadyH.nil
        go_simp
        refine hK.out _ _ trivial (fun hHeld => ?_)
        clear hK K
        try simp only [List.getElem_toArray]
        try simp only [List.getElem_cons_succ]
        try simp only [List.getElem_cons_zero]
        try simp only [Act.put]
        try simp only [List.setIfInBounds_toArray]
        try simp only [List.set]
        refine wpAnyH_take (i := 12) (v := ?v13) rfl (by kernel_rfl) (by kernel_rfl) (by kernel_rfl) (fun _ _ _ h => h) (Or.inl ⟨by kernel_rfl, ?h13⟩) hHeld ?_
        case h13 => intro u hSw; clear hSw; go_simp; try with_reducible rfl
        try simp only [List.getElem_toArray]
        try simp only [List.getElem_cons_succ]
        try simp only [List.getElem_cons_zero]
        try simp only [Act.put]
        try simp only [List.setIfInBounds_toArray]
        try simp only [List.set]
        refine wpAnyH_ready (rs := [13]) (by kernel_rfl) (by simp) ?_
        refine AllReadyH.cons rfl (fun K hK => ?_) AllReadyH.nil
        go_simp
        refine hK.out _ _ trivial (fun hHeld => ?_)
        clear hK K
        have S1 := hS.putC hx ⟨p0, ⟨pt, pk, pv, ps⟩, p5, ⟨qt, qk, qv, qs⟩⟩
        have T1 : Turned lo hi w (put10 D0 b (off + m * 10) ⟨p0, ⟨pt, pk, pv, ps⟩, p5, ⟨qt, qk, qv, qs⟩⟩) := hT.trans (turned10 hlo hhi _)
        have hz1 : (M.set m ⟨p0, ⟨pt, pk, pv, ps⟩, p5, ⟨qt, qk, qv, qs⟩⟩)[jn]? = some ⟨p0, ⟨pt, pk, pv, ps⟩, p5, ⟨qt, qk, qv, qs⟩⟩ := by rw [List.getElem?_set_ne (by omega)]; exact hy
        unfold put10 at S1 T1
        dsimp only at S1 T1
        clear cx0 cx1 cx2 cx3 cx4 cx5 cx6 cx7 cx8 cx9 cy0 cy1 cy2 cy3 cy4 cy5 cy6 cy7 cy8 cy9 fx0 fx1 fx2 fx3 fx4 fx5 fx6 fx7 fx8 fx9 hS hT
        generalize World.setCell _ _ _ = V1 at S1 T1 ⊢
        obtain ⟨-, -, ⟨cy0, cy1, cy2, cy3, cy4, cy5, cy6, cy7, cy8, cy9⟩, hf⟩ := S1.at10 hz1
        dsimp only at cy0 cy1 cy2 cy3 cy4 cy5 cy6 cy7 cy8 cy9
        have fy0 := hf 0 (by omega)
        have fy1 := hf 1 (by omega)
        have fy2 := hf 2 (by omega)
        have fy3 := hf 3 (by omega)
        have fy4 := hf 4 (by omega)
        have fy5 := hf 5 (by omega)
        have fy6 := hf 6 (by omega)
        have fy7 := hf 7 (by omega)
        have fy8 := hf 8 (by omega)
        have fy9 := hf 9 (by omega)
        simp only [Nat.add_zero] at fy0
        clear hf
        try simp only [Act.put]
        try simp only [List.setIfInBounds_toArray]
        try simp only [List.set]
        refine wpAnyH_take (i := 14) (v := ?v14) rfl (by kernel_rfl) (by kernel_rfl) (by kernel_rfl) (fun _ _ _ h => h) (Or.inl ⟨by kernel_rfl, ?h14⟩) hHeld ?_
        case h14 => intro u hSw; clear hSw; go_simp; try with_reducible rfl
        try simp only [List.getElem_toArray]
        try simp only [List.getElem_cons_succ]
        try simp only [List.getElem_cons_zero]
        try simp only [Act.put]
        try simp only [List.setIfInBounds_toArray]
        try simp only [List.set]
        refine wpAnyH_ready (rs := [15]) (by kernel_rfl) (by simp) ?_
        refine AllReadyH.cons rfl (fun K hK => ?_) AllReadyH.nil
        go_simp
        refine hK.out _ _ trivial (fun hHeld => ?_)
        clear hK K
        have S2 := S1.putC hz1 ⟨x0, ⟨xt, xk, xv, xs⟩, x5, ⟨yt, yk, yv, ys⟩⟩
        have T2 : Turned lo hi w (put10 V1 b (off + jn * 10) ⟨x0, ⟨xt, xk, xv, xs⟩, x5, ⟨yt, yk, yv, ys⟩⟩) := T1.trans (turned10 hlo hhi _)
        unfold put10 at S2 T2
        dsimp only at S2 T2
        clear cy0 cy1 cy2 cy3 cy4 cy5 cy6 cy7 cy8 cy9 fy0 fy1 fy2 fy3 fy4 fy5 fy6 fy7 fy8 fy9 S1 T1
        generalize World.setCell _ _ _ = V2 at S2 T2 ⊢
        try simp only [Act.put]
        try simp only [List.setIfInBounds_toArray]
        try simp only [List.set]
        refine wpAnyH_done (by kernel_rfl) ?_ _
        have HR2 := HR.out.step (by rw [HN.out]; exact hmj) hmlt hx hy
        clear hx hy hz1
        have ej : ((jn : Int) - 1) = ((jn - 1 : Nat) : Int) := by omega
        go_wp2_with fail
        go_roundw
        case rel => exact ⟨m + 1, jn - 1, _, by omega, by go_num, rfl, HR2, T2, S2⟩
        case measure => simp [intOf]; omega
    · have hlt : ¬ (m : Int) < (jn : Int) := by omega
      have HE : Hid (M = L.reverse) := HR.out.done (by rw [HN.out]; omega)
      have hS : SlIn chE 10 lo hi wr (some ⟨b, off, none⟩) L.reverse := by rw [← HE.out]; exact hS
      clear HE
      go_wp2_with fail
      (try simp only [Exit.inBlock, Exit.then]); refine bodyPost_end (results_none rfl _ _ _) rfl ?_
      exact ⟨rfl, hT, hS⟩

set_option maxHeartbeats 1000000 in
theorem inverseOf_any (x0 : Bool) (xt xk xv : Int) (xs : ByteArray) (x5 : Bool) (yt yk yv : Int) (ys : ByteArray) (w : World) :
    Calls Try.prog 28 #[.agg #[.bool x0, .int .i64 xt, .int .i64 xk, .int .i64 xv, .string xs, .bool x5, .int .i64 yt, .int .i64 yk, .int .i64 yv, .string ys]] w fun e w' => e = .returned (.agg #[.bool x5, .int .i64 yt, .int .i64 yk, .int .i64 yv, .string ys, .bool x0, .int .i64 xt, .int .i64 xk, .int .i64 xv, .string xs]) ∧ Below w.heap.size w w' := by
  go_enter Try.func28, Try.ntmps28
  go_wp2
  go_returns
  exact ⟨rfl, by go_grown⟩

end Go.Proofs.Ythhkgpflodeleaa
