/-
  ownPages and l7Copy; withPage.
-/
import Derived.Test.YteebbaleejbodaaARPgb
import Derived.Test.YteebbaleejbodaaARMsp

namespace Go.Proofs.Yteebbaleejbodaa
open Go.RowKit
set_option linter.unusedVariables false

/-- The slice that begins at a reads as the pages ps, none of them nil. -/
def PgRdN (w : World) (a : Option Addr) (ps : List (List Int)) : Prop :=
  ps = [] ∨ ∃ b off, a = some ⟨b, off, none⟩ ∧ ∀ i zs, ps[i]? = some zs → ∃ x c, w.cell? ⟨b, off + i, none⟩ = some (.slice (some x) zs.length c) ∧ zs.length ≤ c ∧ Reads w (some x) zs
theorem PgRdN.below {w w' : World} {a : Option Addr} {ps : List (List Int)} (h : PgRdN w a ps) {B : Nat} (hb : Below B w w') (hB : w.heap.size ≤ B) : PgRdN w' a ps := by
  rcases h with h | ⟨b, off, ha, hc⟩
  · exact .inl h
  · refine .inr ⟨b, off, ha, fun i zs hz => ?_⟩
    obtain ⟨x, c, h0, h1, h2⟩ := hc i zs hz
    exact ⟨x, c, (hb.cell (p := ⟨b, _, none⟩) (Nat.lt_of_lt_of_le (World.block_lt_of_cell? w _ h0) hB)).trans h0, h1, h2.below hb hB⟩
theorem PgRdN.page {w : World} {a : Option Addr} {ps : List (List Int)} (h : PgRdN w a ps) {i : Nat} {zs : List Int} (hz : ps[i]? = some zs) : ∃ b off x c, a = some ⟨b, off, none⟩ ∧ w.cell? ⟨b, off + i, none⟩ = some (.slice (some x) zs.length c) ∧ zs.length ≤ c ∧ Reads w (some x) zs := by
  rcases h with h | ⟨b, off, ha, hc⟩
  · rw [h] at hz; simp at hz
  · obtain ⟨x, c, h0, h1, h2⟩ := hc i zs hz
    exact ⟨b, off, x, c, ha, h0, h1, h2⟩
theorem PgB.lit (w : World) : PgB w.heap.size (w.alloc (.cells #[] 106)) (.slice (some ⟨w.heap.size, 0, none⟩) 0 0) [] [] := ⟨ownsRow_lit0 w 106 1, rfl, by simp⟩
theorem info41' : (Try.prog.info? 106).map (fun i => (i.zero, i.size, i.bytes)) = some (some (.slice none 0 0), 1, 24) := by kernel_rfl
theorem info41 : ∃ i, Try.prog.info? 106 = some i ∧ i.zero = some (.slice none 0 0) ∧ i.size = 1 ∧ i.bytes = 24 := by
  have h := info41'
  cases hi : Try.prog.info? 106 with
  | none => rw [hi] at h; simp at h
  | some i => rw [hi] at h; simp at h; exact ⟨i, rfl, h.1, h.2.1, h.2.2⟩
/-- Pages copied. -/
def OwPost (ps : List (List Int)) (w : World) (e : Ending) (w' : World) : Prop := ∃ v V, e = .returned v ∧ Below w.heap.size w w' ∧ PgB w.heap.size w' v ps V ∧ SepV V
/-- What withPage hands back. -/
def WpPost (n₀ : Nat) (v : Value) (qs : List (List Int)) (V : List Value) (u : Value) (w : World) (e : Ending) (w' : World) : Prop := ∃ v' V', e = .returned v' ∧ Below n₀ w w' ∧ PgB n₀ w' v' qs V' ∧ SepV V' ∧ ∀ g, blkP v' V' g → blkP v V g ∨ u.ownBlock = some g ∨ w.heap.size ≤ g
theorem Gb.form {base : Nat} {w : World} {v : Value} {xs : List Int} (h : Gb base w v xs) : ∃ a c, v = .slice a xs.length c := by
  obtain ⟨a, c, e, _⟩ := h.shape
  exact ⟨a, c, e⟩

set_option maxHeartbeats 2000000 in
theorem ownPages_any (a : Option Addr) (ps : List (List Int)) (n c : Nat) (w : World) (hn : ps.length = n) (hm : n ≤ 1048576) (hp : PgOk ps) (hr : PgRdN w a ps) :
    Calls Try.prog 69 #[.slice a n c] w fun e w' => OwPost ps w e w' := by
  obtain ⟨i5, hi5, hz50, hz51, hz52⟩ := info41
  have HN : Hid (ps.length = n) := hn
  have HP : Hid (PgOk ps) := hp
  have HR : Hid (∀ W, Below w.heap.size w W → PgRdN W a ps) := fun W hW => hr.below hW (Nat.le_refl _)
  clear hn hp hr
  go_enter Try.func69, Try.ntmps69
  go_wp2_with fail
  go_loopw [8, 3] (fun i v wr => ∃ j : Nat, j ≤ n ∧ i = .int .i64 j ∧ Below w.heap.size w wr ∧ ∃ V, PgB w.heap.size wr v (ps.take j) V ∧ SepV V) (fun i _ _ => n - (intOf i).toNat)
  case atStart => exact ⟨0, Nat.zero_le _, rfl, Below.refl _ _, [], PgB.nil _ _, fun i j u u' g _ h => by simp at h⟩
  case round =>
    obtain ⟨j, hj, rfl, gr, V, hP, hS⟩ := hrel
    by_cases hlt : j < n
    · obtain ⟨zs, hz⟩ : ∃ zs, ps[j]? = some zs := ⟨_, List.getElem?_eq_getElem (by rw [HN.out]; exact hlt)⟩
      obtain ⟨b, off, x, cx, rfl, x0, hcx, rdx⟩ := (HR.out _ gr).page hz
      have hzl := (HP.out zs (List.mem_of_getElem? hz)).1
      have hjn : (j : Int) < (n : Int) := by omega
      have HT : Hid (ps.take (j + 1) = ps.take j ++ [zs]) := take_snoc hz
      have HL : Hid ((ps.take j).length = j) := by show _ = _; rw [List.length_take, HN.out]; omega
      clear hz
      obtain ⟨zl, hzl0⟩ : ∃ zl, zl = zs.length := ⟨_, rfl⟩
      have HZ : Hid (zs.length = zl) := hzl0.symm
      rw [← hzl0] at x0 hzl hcx
      clear hzl0
      generalize ps.take j = qs at hP HT HL
      go_wp2_with fail
      refine (clone_gen (some x) zs zl cx _ HZ.out (by omega) rdx (fun h => by cases h)).mono ?_
      rintro e w1 ⟨u, rfl, g1, hu⟩
      have hfr : ∀ y ∈ V, ∀ g, u.ownBlock = some g → y.ownBlock ≠ some g := fun y hy g e1 e2 => by
        have h1 := (Gb.lt hu g e1).1
        have h2 := (hP.lt (.inr ⟨y, hy, e2⟩)).2
        omega
      have hgs := gr.size
      have hP1 := hP.below g1
      have hu1 := hu.base hgs
      have gr1 := gr.trans (g1.mono gr.size)
      have hsz1 := gr1.size
      obtain ⟨au, cu, rfl⟩ := hu1.form
      clear x0 rdx hcx g1 hP hu
      rw [HZ.out] at hu1 hfr ⊢
      have gL : Below w1.heap.size w1 (w1.alloc (.cells #[.slice au zl cu] 106)) := by go_grown
      have hP2 := hP1.below gL
      have hu2 : Gb w.heap.size (w1.alloc (.cells #[.slice au zl cu] 106)) (.slice au zl cu) zs := hu1.below gL
      have hVl : V.length = qs.length := hP1.len
      have HVl : Hid (qs.length = j) := HL.out
      go_wp2_with (at_builtin; refine wpList_append_own _ rfl _ _ 35 rfl w.heap.size 106 i5 (.slice none 0 0) 1 24 Try.underlying35 hi5 hz50 hz51 hz52 rfl (by decide) _ _ _ rfl hP2.row ⟨w1.heap.size, 0, none⟩ 1 1 [.slice au zl cu] rfl rfl ?n1 ?n2 ?n3 ?n4 ?n5 ?_)
      case n1 =>
        intro k y hy
        match k, hy with
        | 0, hy => simp at hy; subst hy; simp [go_sem, Addr.add]
      case n2 => intro y hy; simp at hy; subst hy; rfl
      case n3 => rw [HVl.out]; unfold maxLen; omega
      case n4 => rw [HVl.out]; omega
      case n5 => simp; omega
      intro v' w2 hown' hgrow hob
      have hP3 := hP2.append hu2 hown' hgrow
      have hS3 := sep_append hS hfr
      have hlow : ∀ g, Value.ownBlock u3 = some g → w.heap.size ≤ g := fun g e => (hP1.row.lt g e).1
      have gr2 : Below w.heap.size w w2 := Below.grown (gr1.trans (gL.mono gr1.size)) hgrow (by simp; omega) hlow
      rw [← HT.out] at hP3
      clear hP1 hP2 hu1 hu2 hown' hgrow gL hob hS hfr hVl HVl hlow
      go_wp2_with fail
      go_roundw
      case rel => exact ⟨j + 1, by omega, by go_num, gr2, _, hP3, hS3⟩
      case measure => simp [intOf]; omega
    · have e : ps.take j = ps := List.take_of_length_le (by rw [HN.out]; omega)
      rw [e] at hP
      have hjn : ¬ (j : Int) < (n : Int) := by omega
      have HO : Hid (PgB w.heap.size wr u3 ps V) := hP
      have HS : Hid (SepV V) := hS
      clear hP hS e
      go_wp2_with fail
      go_ret
      exact ⟨_, V, rfl, gr, HO.out, HS.out⟩

set_option maxHeartbeats 2000000 in
theorem l7Copy_any (a : Option Addr) (ps : List (List Int)) (n c : Nat) (w : World) (hn : ps.length = n) (hm : n ≤ 1048576) (hp : PgOk ps) (hr : PgRdN w a ps) :
    Calls Try.prog 67 #[.slice a n c] w fun e w' => OwPost ps w e w' := by
  obtain ⟨i5, hi5, hz50, hz51, hz52⟩ := info41
  have HN : Hid (ps.length = n) := hn
  have HP : Hid (PgOk ps) := hp
  have HR : Hid (∀ W, Below w.heap.size w W → PgRdN W a ps) := fun W hW => hr.below hW (Nat.le_refl _)
  clear hn hp hr
  have gA : Below w.heap.size w (w.alloc (.cells #[] 106)) := by go_grown
  have hPl := PgB.lit w
  go_enter Try.func67, Try.ntmps67
  go_wp2_with fail
  go_loopw [4, 3] (fun i v wr => ∃ j : Nat, j ≤ n ∧ i = .int .i64 j ∧ Below w.heap.size w wr ∧ ∃ V, PgB w.heap.size wr v (ps.take j) V ∧ SepV V) (fun i _ _ => n - (intOf i).toNat)
  case atStart => exact ⟨0, Nat.zero_le _, rfl, gA, [], hPl, fun i j u u' g _ h => by simp at h⟩
  case round =>
    obtain ⟨j, hj, rfl, gr, V, hP, hS⟩ := hrel
    by_cases hlt : j < n
    · obtain ⟨zs, hz⟩ : ∃ zs, ps[j]? = some zs := ⟨_, List.getElem?_eq_getElem (by rw [HN.out]; exact hlt)⟩
      obtain ⟨b, off, x, cx, rfl, x0, hcx, rdx⟩ := (HR.out _ gr).page hz
      have hzl := (HP.out zs (List.mem_of_getElem? hz)).1
      have hjn : (j : Int) < (n : Int) := by omega
      have HT : Hid (ps.take (j + 1) = ps.take j ++ [zs]) := take_snoc hz
      have HL : Hid ((ps.take j).length = j) := by show _ = _; rw [List.length_take, HN.out]; omega
      clear hz
      obtain ⟨zl, hzl0⟩ : ∃ zl, zl = zs.length := ⟨_, rfl⟩
      have HZ : Hid (zs.length = zl) := hzl0.symm
      rw [← hzl0] at x0 hzl hcx
      clear hzl0
      generalize ps.take j = qs at hP HT HL
      go_wp2_with fail
      refine (l2Copy_gen (some x) zs zl cx _ HZ.out (by omega) rdx).mono ?_
      rintro e w1 ⟨u, rfl, g1, hu⟩
      have hfr : ∀ y ∈ V, ∀ g, u.ownBlock = some g → y.ownBlock ≠ some g := fun y hy g e1 e2 => by
        have h1 := (Gb.lt hu g e1).1
        have h2 := (hP.lt (.inr ⟨y, hy, e2⟩)).2
        omega
      have hgs := gr.size
      have hP1 := hP.below g1
      have hu1 := hu.base hgs
      have gr1 := gr.trans (g1.mono gr.size)
      have hsz1 := gr1.size
      obtain ⟨au, cu, rfl⟩ := hu1.form
      clear x0 rdx hcx g1 hP hu
      rw [HZ.out] at hu1 hfr ⊢
      have gL : Below w1.heap.size w1 (w1.alloc (.cells #[.slice au zl cu] 106)) := by go_grown
      have hP2 := hP1.below gL
      have hu2 : Gb w.heap.size (w1.alloc (.cells #[.slice au zl cu] 106)) (.slice au zl cu) zs := hu1.below gL
      have hVl : V.length = qs.length := hP1.len
      have HVl : Hid (qs.length = j) := HL.out
      go_wp2_with (at_builtin; refine wpList_append_own _ rfl _ _ 35 rfl w.heap.size 106 i5 (.slice none 0 0) 1 24 Try.underlying35 hi5 hz50 hz51 hz52 rfl (by decide) _ _ _ rfl hP2.row ⟨w1.heap.size, 0, none⟩ 1 1 [.slice au zl cu] rfl rfl ?n1 ?n2 ?n3 ?n4 ?n5 ?_)
      case n1 =>
        intro k y hy
        match k, hy with
        | 0, hy => simp at hy; subst hy; simp [go_sem, Addr.add]
      case n2 => intro y hy; simp at hy; subst hy; rfl
      case n3 => rw [HVl.out]; unfold maxLen; omega
      case n4 => rw [HVl.out]; omega
      case n5 => simp; omega
      intro v' w2 hown' hgrow hob
      have hP3 := hP2.append hu2 hown' hgrow
      have hS3 := sep_append hS hfr
      have hlow : ∀ g, Value.ownBlock u3 = some g → w.heap.size ≤ g := fun g e => (hP1.row.lt g e).1
      have gr2 : Below w.heap.size w w2 := Below.grown (gr1.trans (gL.mono gr1.size)) hgrow (by simp; omega) hlow
      rw [← HT.out] at hP3
      clear hP1 hP2 hu1 hu2 hown' hgrow gL hob hS hfr hVl HVl hlow
      go_wp2_with fail
      go_roundw
      case rel => exact ⟨j + 1, by omega, by go_num, gr2, _, hP3, hS3⟩
      case measure => simp [intOf]; omega
    · have e : ps.take j = ps := List.take_of_length_le (by rw [HN.out]; omega)
      rw [e] at hP
      have hjn : ¬ (j : Int) < (n : Int) := by omega
      have HO : Hid (PgB w.heap.size wr u3 ps V) := hP
      have HS : Hid (SepV V) := hS
      clear hP hS e
      go_wp2_with fail
      go_ret
      exact ⟨_, V, rfl, gr, HO.out, HS.out⟩

theorem run_append_pg (w : World) (base : Nat) (ty : TypeId) (v : Value) (n : Nat) (V : List Value) (b : Nat) (u : Value) (hown : w.ownsRow base 106 1 v n V) (hc : w.cell? ⟨b, 0, none⟩ = some u) (h1 : u.oneCell' = true) (hl : n + 1 ≤ 100000000) (hb : base ≤ w.heap.size) :
    ∃ v' w', (Builtin.append_ #[35, 35] ty #[v, .slice (some ⟨b, 0, none⟩) 1 1]).run Try.prog w = .ok v' w' ∧ w'.ownsRow base 106 1 v' (n + 1) (V ++ [u]) ∧ w.grownBy w' v.ownBlock ∧ (v'.ownBlock = v.ownBlock ∨ v'.ownBlock = some w.heap.size) := by
  obtain ⟨i0, hi0, hz0, hz1, hz2⟩ := info41
  obtain ⟨v', w', a1, a2, a3, _, a5⟩ := run_append_own_at (P := Try.prog) w base 35 ty 106 i0 (.slice none 0 0) 1 24 Try.underlying35 hi0 hz0 hz1 hz2 rfl (by decide) v n V hown ⟨b, 0, none⟩ 1 1 [u] rfl (fun j y hy => by
    match j, hy with
    | 0, hy => simp at hy; subst hy; exact hc) (fun y hy => by simp at hy; subst hy; exact h1) (by unfold maxLen; omega) (by omega) hb
  exact ⟨v', w', a1, a2, a3, a5⟩
theorem wpList_append_pg (w : World) {ops : Array Oper} {rest : List Oper} {o : Oper} {a : Act} {Q : Exit → Act → World → Prop} (hgd : o.guard = none) (s x : Operand)
    (ho : o.op = .call { callee := .builtin .append, args := #[s, x], argTypes := #[35, 35] }) (base : Nat) (v : Value) (n : Nat) (V : List Value) (b : Nat) (u : Value) (hs : a.eval s = v) (hx : a.eval x = .slice (some ⟨b, 0, none⟩) 1 1)
    (hown : w.ownsRow base 106 1 v n V) (hc : w.cell? ⟨b, 0, none⟩ = some u) (h1 : u.oneCell' = true) (hl : n + 1 ≤ 100000000) (hb : base ≤ w.heap.size)
    (h : ∀ v' w', w'.ownsRow base 106 1 v' (n + 1) (V ++ [u]) → w.grownBy w' v.ownBlock → (v'.ownBlock = v.ownBlock ∨ v'.ownBlock = some w.heap.size) → wpList Try.prog ops Q rest (a.put o.dst v') w') : wpList Try.prog ops Q (o :: rest) a w :=
  wpList_plain hgd fun K hK => by
    obtain ⟨v', w', r1, r2, r3, r4⟩ := run_append_pg w base o.type v n V b u hown hc h1 hl hb
    exact Go.Lib.wp_append_run w s x 35 35 ho v _ hs hx v' w' r1 (hK _ _ (h v' w' r2 r3 r4))

/-- A page is another one, or a new last one. -/
def wpL (ps : List (List Int)) (p : Nat) (zs : List Int) : List (List Int) := if p = ps.length then ps ++ [zs] else ps.set p zs
theorem wpL_new (ps : List (List Int)) (zs : List Int) : wpL ps ps.length zs = ps ++ [zs] := by unfold wpL; rw [if_pos rfl]
theorem wpL_old {ps : List (List Int)} {p : Nat} (zs : List Int) (h : p < ps.length) : wpL ps p zs = ps.set p zs := by unfold wpL; rw [if_neg (by omega)]

set_option maxHeartbeats 1000000 in
theorem withPage_any (n₀ : Nat) (x : Option Addr) (n c p : Nat) (ps : List (List Int)) (V : List Value) (au : Option Addr) (zl cu : Nat) (zs : List Int) (w : World) (hn : ps.length = n) (hm : n ≤ 1048576) (hp : p ≤ n) (h : PgB n₀ w (.slice x n c) ps V) (hS : SepV V) (hu : Gb n₀ w (.slice au zl cu) zs) (hfr : ∀ y ∈ V, ∀ g, Value.ownBlock (.slice au zl cu) = some g → y.ownBlock ≠ some g) (hb : n₀ ≤ w.heap.size) :
    Calls Try.prog 133 #[.slice x n c, .int .i64 p, .slice au zl cu] w fun e w' => WpPost n₀ (.slice x n c) (wpL ps p zs) V (.slice au zl cu) w e w' := by
  obtain ⟨i5, hi5, hz50, hz51, hz52⟩ := info41
  have HN : Hid (ps.length = n) := hn
  by_cases e : p = n
  · have HW : Hid (wpL ps p zs = ps ++ [zs]) := by show _ = _; rw [e, ← hn]; exact wpL_new ps zs
    subst e
    have gL : Below w.heap.size w (w.alloc (.cells #[.slice au zl cu] 106)) := by go_grown
    have hP2 := h.below gL
    have hu2 : Gb n₀ (w.alloc (.cells #[.slice au zl cu] 106)) (.slice au zl cu) zs := hu.below gL
    have HR : Hid ((w.alloc (.cells #[.slice au zl cu] 106)).ownsRow n₀ 106 1 (.slice x p c) p V) := by
      show World.ownsRow _ _ _ _ _ _ _
      have := hP2.row
      rw [HN.out] at this
      exact this
    clear hn
    go_enter Try.func133, Try.ntmps133
    go_wp2_with (at_builtin; refine wpList_append_pg _ rfl _ _ rfl n₀ _ p V w.heap.size (.slice au zl cu) rfl rfl HR.out (by simp [go_sem]) rfl (by omega) (by simp; omega) ?_)
    intro v' w2 hown' hgrow hob
    have hP3 : PgB n₀ w2 v' (ps ++ [zs]) (V ++ [.slice au zl cu]) := hP2.append hu2 (by rw [HN.out]; exact hown') hgrow
    have hS3 := sep_append hS hfr
    have hlow : ∀ g, Value.ownBlock (.slice x p c) = some g → n₀ ≤ g := fun g e => (h.row.lt g e).1
    have gr2 : Below n₀ w w2 := Below.grown (gL.mono hb) hgrow (by simp; omega) hlow
    have HB : Hid (∀ g, blkP v' (V ++ [.slice au zl cu]) g → blkP (.slice x p c) V g ∨ Value.ownBlock (.slice au zl cu) = some g ∨ w.heap.size ≤ g) := fun g hg => by
      rcases blk_append hg hob with h1 | h1 | h1
      · exact .inl h1
      · exact .inr (.inr (by rw [h1]; omega))
      · exact .inr (.inl h1)
    rw [← HW.out] at hP3
    clear hown' hgrow gL hob hP2 hu2 h hS hu hfr hlow HR
    go_wp2_with fail
    go_ret
    exact ⟨_, _, rfl, gr2, hP3, hS3, HB.out⟩
  · have hpn : p < n := by omega
    have HW : Hid (wpL ps p zs = ps.set p zs) := wpL_old zs (by rw [HN.out]; exact hpn)
    have hne : ¬ ((p : Int) = (n : Int)) := by omega
    have hpi : (p : Int) < (n : Int) := by omega
    have d : ((p : Int) == (n : Int)) = false := by simpa using hne
    obtain ⟨g, cap, hv⟩ : ∃ g cap, Value.slice x n c = .slice (some ⟨g, 0, none⟩) n cap := by
      rcases h.row.2 with ⟨_, h0⟩ | ⟨g, cap, cur, e2, _⟩
      · rw [HN.out] at h0; omega
      · exact ⟨g, cap, by rw [e2, HN.out]⟩
    injection hv with hx _ hc
    subst hx hc
    have hP3 := h.set (zs := zs) (u := .slice au zl cu) hu (g := g) (n := n) (cap := c) (i := p) rfl (by rw [HN.out]; exact hpn)
    have hS3 := sep_set (i := p) hS hfr
    have hrow : w.ownsRow n₀ 106 1 (.slice (some ⟨g, 0, none⟩) n c) n V := by have := h.row; rw [HN.out] at this; exact this
    have hc0 := hrow.cellAt p (by omega)
    have hf0 : w.frozen? ⟨g, p, none⟩ = false := hrow.frozenAt _
    obtain ⟨y0, hy0⟩ : ∃ y, V[p]? = some y := ⟨_, List.getElem?_eq_getElem (by rw [h.len, HN.out]; exact hpn)⟩
    rw [hy0] at hc0
    have hgl := (h.row.lt g rfl).1
    have gr2 : Below n₀ w (w.setCell ⟨g, p, none⟩ (.slice au zl cu)) := Turned.toBelow ((Turned.refl g (g + 1) w).setCell (p := ⟨g, p, none⟩) (Nat.le_refl _) (Nat.lt_succ_self _) _) hb hgl
    have HB : Hid (∀ q, blkP (.slice (some ⟨g, 0, none⟩) n c) (V.set p (.slice au zl cu)) q → blkP (.slice (some ⟨g, 0, none⟩) n c) V q ∨ Value.ownBlock (.slice au zl cu) = some q ∨ w.heap.size ≤ q) := fun q hq => by
      rcases hq with h1 | ⟨y, hy, h1⟩
      · exact .inl (.inl h1)
      · rcases List.mem_or_eq_of_mem_set hy with h2 | rfl
        · exact .inl (.inr ⟨y, h2, h1⟩)
        · exact .inr (.inl h1)
    rw [← HW.out] at hP3
    clear h hS hu hfr hy0 hn hrow
    go_enter Try.func133, Try.ntmps133
    go_wp2_with fail
    go_ret
    exact ⟨_, _, rfl, gr2, hP3, hS3, HB.out⟩

end Go.Proofs.Yteebbaleejbodaa
