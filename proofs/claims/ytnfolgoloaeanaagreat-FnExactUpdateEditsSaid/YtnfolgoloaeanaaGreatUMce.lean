/-
  The model's l6Cell, of right pages; what it tells of moved cells.
-/
import Derived.Test.YtnfolgoloaeanaaGreatUMsp
import Derived.Test.YtnfolgoloaeanaaGreatUVci
import Derived.Test.YtnfolgoloaeanaaGreatUDee
import Derived.Test.YtnfolgoloaeanaaGreatUApn
import Derived.Test.YtnfolgoloaeanaaGreatUDrf

namespace Go.Proofs.YtnfolgoloaeanaaGreat
open Go.RowKit Go.Maps
set_option linter.unusedVariables false

/-- The cell of a page and slot. -/
def lkC (ps : List (List Int)) (p s : Int) : Option Cel :=
  if inR p 0 ((ps.length : Int) - 1) = true then (match ps[p.toNat]? with | some zs => if hasC zs s = true then some (unp (cellOf zs s.toNat)) else none | none => none) else none
def zC : Cel := ⟨0, 0, 0, 0, 0, 0, 0, ⟨#[]⟩⟩

theorem hasC_slot {zs : List Int} {x : Int} (h : hasC zs x = true) : ∃ s : Nat, x = (s : Int) ∧ s < nb zs 0 ∧ empB zs s = false := by
  unfold hasC inR at h
  simp at h
  exact ⟨x.toNat, by omega, by omega, h.2⟩
theorem hasC_of {zs : List Int} {s : Nat} (h1 : s < nb zs 0) (h2 : empB zs s = false) : hasC zs (s : Int) = true := by
  unfold hasC inR
  simp [h2]
  omega

set_option maxRecDepth 20000 in
set_option maxHeartbeats 4000000 in
theorem l6Cell_any (a : Option Addr) (ps : List (List Int)) (n c : Nat) (p s : Int) (w : World) (hn : ps.length = n) (hm : n ≤ 12) (hp : PgOk ps) (hr : PgRead w a ps) (hq : pagesQ ps = 0) (hps : small p) (hss : small s) :
    Calls Tryz.prog 162 #[.slice a n c, .int .i64 p, .int .i64 s] w fun e w' => e = .returned (.tuple #[celV ((lkC ps p s).getD zC), .bool (lkC ps p s).isSome]) ∧ Below w.heap.size w w' := by
  have hQ := pagesQ_zero hq
  have hX : CelOwn (w.alloc (.cells #[.int .i64 0, .int .i64 0, .int .i64 0, .int .i64 0, .int .i64 0, .int .i64 0, .int .i64 0, .string ⟨#[]⟩] 93)) w.heap.size := ⟨by simp [go_sem], by simp [go_sem], by simp [go_sem], by simp [go_sem], by simp [go_sem], by simp [go_sem], by simp [go_sem], by simp [go_sem], by simp [go_sem], by simp [go_sem], by simp [go_sem], by simp [go_sem], by simp [go_sem], by simp [go_sem], by simp [go_sem], by simp [go_sem]⟩
  have gX : Below w.heap.size w (w.alloc (.cells #[.int .i64 0, .int .i64 0, .int .i64 0, .int .i64 0, .int .i64 0, .int .i64 0, .int .i64 0, .string ⟨#[]⟩] 93)) := by go_grown
  have hlt0 : w.heap.size < (w.alloc (.cells #[.int .i64 0, .int .i64 0, .int .i64 0, .int .i64 0, .int .i64 0, .int .i64 0, .int .i64 0, .string ⟨#[]⟩] 93)).heap.size := by simp
  obtain ⟨X, hX0⟩ : ∃ X, w.alloc (.cells #[.int .i64 0, .int .i64 0, .int .i64 0, .int .i64 0, .int .i64 0, .int .i64 0, .int .i64 0, .string ⟨#[]⟩] 93) = X := ⟨_, rfl⟩
  rw [hX0] at hX gX hlt0
  have hr := hr.below gX (Nat.le_refl _)
  obtain ⟨p0, p1⟩ := hps
  have HZE : Hid (∀ v, v = none → lkC ps p s = v → celV ((lkC ps p s).getD zC) = .agg #[.int .i64 0, .int .i64 0, .int .i64 0, .int .i64 0, .int .i64 0, .int .i64 0, .int .i64 0, .string ⟨#[]⟩] ∧ (lkC ps p s).isSome = false) := fun v hv h => by rw [h, hv]; exact ⟨rfl, rfl⟩
  have hwn : IntKind.i64.wrap ((n : Int) - 1) = (n : Int) - 1 := by simp [IntKind.wrap, IntKind.bits, IntKind.signed]; omega
  cases hin : inR p 0 ((n : Int) - 1)
  · have HL : Hid (lkC ps p s = none) := by show _ = _; unfold lkC; rw [hn, hin]; rfl
    obtain ⟨HV1, HV2⟩ := HZE.out none rfl HL.out
    have HV1 : Hid (_) := HV1
    have HV2 : Hid (_) := HV2
    clear HZE hQ
    obtain ⟨c0, c1, c2, c3, c4, c5, c6, c7, f0, f1, f2, f3, f4, f5, f6, f7⟩ := hX
    go_enter Tryz.func162, Tryz.ntmps162
    go_wp2_with fail
    refine (l1In_any _ _ _ _).mono ?_
    rintro e w' ⟨rfl, hw'⟩
    subst w'
    rw [hin]
    go_wp2_with fail
    refine bodyPost_ret (v := .tuple #[.agg #[.int .i64 0, .int .i64 0, .int .i64 0, .int .i64 0, .int .i64 0, .int .i64 0, .int .i64 0, .string ⟨#[]⟩], .bool false]) (by simp [results, Tryz.results162, go_sem, *]) rfl ?_
    exact ⟨by rw [HV1.out, HV2.out], by go_grown⟩
  · have hin' := hin
    unfold inR at hin'
    simp at hin'
    obtain ⟨i, rfl⟩ : ∃ i : Nat, p = i := ⟨p.toNat, by omega⟩
    have hlt : i < n := by omega
    obtain ⟨zs, hzs⟩ := at_lt' (rs := ps) (i := i) (by omega)
    obtain ⟨b, off, x, cx, rfl, e0, hcx, hx⟩ := hr.page hzs
    have hzz := (hp zs (List.mem_of_getElem? hzs)).2
    have hRt := right_of hzz (hQ zs (List.mem_of_getElem? hzs))
    have HL : Hid (lkC ps i s = if hasC zs s = true then some (unp (cellOf zs s.toNat)) else none) := by
      show _ = _
      unfold lkC
      rw [hn, hin, if_pos rfl, Int.toNat_natCast, hzs]
    have hb0 : b < X.heap.size := World.block_lt_of_cell? X _ e0
    have HE : Hid (∀ W, Below X.heap.size X W → W.cell? ⟨b, off + i, none⟩ = some (.slice x 64 cx) ∧ Reads W x zs) := fun W hW => by
      rw [← hRt.f.pg.len]
      exact ⟨(hW.cell (p := ⟨b, _, none⟩) hb0).trans e0, hx.below hW (Nat.le_refl _)⟩
    rw [hRt.f.pg.len] at hcx
    have HF : Hid (Right zs) := hRt
    have HZ : Hid (∀ z ∈ zs, 0 ≤ z ∧ z ≤ 255) := hzz
    clear e0 hx hRt hzz hr hQ hp
    obtain ⟨e0, hx⟩ := HE.out _ (Below.refl _ _)
    have HX : Hid (Reads X x zs) := hx
    have hss' := small_wf hss
    have hii : (i : Int) < (n : Int) := by omega
    clear hx
    cases hh : hasC zs s
    · have HL2 : Hid (lkC ps i s = none) := by show _ = _; rw [HL.out, hh]; rfl
      obtain ⟨HV1, HV2⟩ := HZE.out none rfl HL2.out
      have HV1 : Hid (_) := HV1
      have HV2 : Hid (_) := HV2
      clear HZE
      obtain ⟨c0, c1, c2, c3, c4, c5, c6, c7, f0, f1, f2, f3, f4, f5, f6, f7⟩ := hX
      go_enter Tryz.func162, Tryz.ntmps162
      go_wp2_with fail
      refine (l1In_any _ _ _ _).mono ?_
      rintro e w' ⟨rfl, hw'⟩
      subst w'
      rw [hin]
      clear hin
      go_wp2_with fail
      refine (l2Has_any x zs cx s _ HX.out HF.out.f hss').mono ?_
      rintro e w' ⟨rfl, hw'⟩
      subst w'
      rw [hh]
      clear hh
      go_wp2_with fail
      refine bodyPost_ret (v := .tuple #[.agg #[.int .i64 0, .int .i64 0, .int .i64 0, .int .i64 0, .int .i64 0, .int .i64 0, .int .i64 0, .string ⟨#[]⟩], .bool false]) (by simp [results, Tryz.results162, go_sem, *]) rfl ?_
      exact ⟨by rw [HV1.out, HV2.out], by go_grown⟩
    · obtain ⟨k, rfl, hk, he⟩ := hasC_slot hh
      have hzc : ∀ z ∈ cellOf zs k, 0 ≤ z ∧ z ≤ 255 := fun z hz' => HZ.out z (List.mem_of_mem_drop (List.mem_of_mem_take hz'))
      have hclen := cellOf_length HF.out.f k hk
      have hq0 := HF.out.b k hk he
      have HCl : Hid (∀ W, Reads W x zs → Calls Tryz.prog 161 #[.slice x 64 cx, .int .i64 k] W fun e w' => ∃ a' d, e = .returned (.slice a' (nb zs (3 + 2 * k)) d) ∧ nb zs (3 + 2 * k) ≤ d ∧ Below W.heap.size W w' ∧ BytesIn W.heap.size w'.heap.size w' a' (cellOf zs k)) := fun W hW => l2CellC_any x zs cx k W hW HF.out.f hcx hk he
      obtain ⟨cq, cf, cp, cl, ct, ck, cv, cs, hu⟩ := celV_form (unp (cellOf zs k))
      have HRd : Hid (∀ W a' d, nb zs (3 + 2 * k) ≤ d → Reads W a' (cellOf zs k) → Calls Tryz.prog 160 #[.slice a' (nb zs (3 + 2 * k)) d] W fun e w' => e = .returned (.tuple #[.agg #[.int .i64 cq, .int .i64 cf, .int .i64 cp, .int .i64 cl, .int .i64 ct, .int .i64 ck, .int .i64 cv, .string cs], .bool true]) ∧ Below W.heap.size W w') := fun W a' d hd hW => by
        have := l1Read_any a' (cellOf zs k) _ d W hclen hd hW hzc
        rw [(read_unp hq0).1, (read_unp hq0).2, hu] at this
        exact this
      have HL2 : Hid (celV ((lkC ps i k).getD zC) = .agg #[.int .i64 cq, .int .i64 cf, .int .i64 cp, .int .i64 cl, .int .i64 ct, .int .i64 ck, .int .i64 cv, .string cs] ∧ (lkC ps i k).isSome = true) := by
        show _ ∧ _
        rw [HL.out, hh, if_pos rfl, Int.toNat_natCast, hu]
        exact ⟨rfl, rfl⟩
      generalize nb zs (3 + 2 * k) = l at HCl HRd
      clear HZE hzc hclen hq0 hu hk he
      go_enter Tryz.func162, Tryz.ntmps162
      go_wp2_with fail
      refine (l1In_any _ _ _ _).mono ?_
      rintro e w' ⟨rfl, hw'⟩
      subst w'
      rw [hin]
      clear hin
      go_wp2_with fail
      refine (l2Has_any x zs cx k _ HX.out HF.out.f hss').mono ?_
      rintro e w' ⟨rfl, hw'⟩
      subst w'
      rw [hh]
      clear hh
      go_wp2_with fail
      refine (HCl.out _ HX.out).mono ?_
      rintro e w2 ⟨a2, d2, rfl, hd2, g2, y2⟩
      have r2 := y2.reads
      have hX2 := hX.below g2 hlt0
      have g3 := gX.trans (g2.mono gX.size)
      have hlt2 := Nat.lt_of_lt_of_le hlt0 g2.size
      clear y2 g2 e0 hX
      go_wp2_with fail
      refine (HRd.out _ a2 d2 hd2 r2).mono ?_
      rintro e w3 ⟨rfl, g4⟩
      have hX3 := hX2.below g4 hlt2
      have g5 := g3.trans (g4.mono g3.size)
      have hgs5 := g5.size
      clear r2 g4 g3 hX2
      obtain ⟨c0, c1, c2, c3, c4, c5, c6, c7, f0, f1, f2, f3, f4, f5, f6, f7⟩ := hX3
      go_wp2_with fail
      refine bodyPost_ret (v := .tuple #[.agg #[.int .i64 cq, .int .i64 cf, .int .i64 cp, .int .i64 cl, .int .i64 ct, .int .i64 ck, .int .i64 cv, .string cs], .bool true]) (by simp [results, Tryz.results162, go_sem, *]) rfl ?_
      exact ⟨by rw [HL2.out.1, HL2.out.2], by go_grown⟩

/-- The places of cells. -/
theorem spotsOf_mem : ∀ (l : List (List Int)) (p : Nat) (x : Spt), PgOk l → (∀ zs ∈ l, pageC zs = 0) → (x ∈ spotsOf p l ↔ ∃ i zs s, l[i]? = some zs ∧ s < nb zs 0 ∧ empB zs s = false ∧ x = ⟨(p + i : Nat), (s : Nat), unp (cellOf zs s)⟩)
  | [], p, x, _, _ => by simp [spotsOf]
  | z :: l, p, x, hp, hq => by
    have ih := spotsOf_mem l (p + 1) x (fun y hy => hp y (by simp [hy])) (fun y hy => hq y (by simp [hy]))
    have hpc := hq z (by simp)
    simp only [spotsOf, List.mem_append, ih, pageL_right hpc]
    constructor
    · rintro (h | ⟨i, zs, s, h1, h2, h3, h4⟩)
      · obtain ⟨s, h1, h2, h3⟩ := cellsTo_mem _ _ _ _ h
        exact ⟨0, z, s, rfl, h1, h2, h3⟩
      · exact ⟨i + 1, zs, s, by simpa using h1, h2, h3, by rw [h4, show p + 1 + i = p + (i + 1) by omega]⟩
    · rintro ⟨i, zs, s, h1, h2, h3, h4⟩
      cases i with
      | zero =>
        simp at h1
        subst h1
        refine .inl ?_
        rw [h4]
        have : ∀ n, s < n → (⟨((p + 0 : Nat) : Int), (s : Int), unp (cellOf z s)⟩ : Spt) ∈ cellsTo p z n := by
          intro n
          induction n with
          | zero => intro h; omega
          | succ n ihn =>
            intro h
            simp only [cellsTo, List.mem_append]
            by_cases e : s = n
            · subst e; right; unfold oneC; rw [h3]; simp
            · left; exact ihn (by omega)
        exact this _ h2
      | succ i => exact .inr ⟨i, zs, s, by simpa using h1, h2, h3, by rw [h4, show p + 1 + i = p + (i + 1) by omega]⟩

theorem mvF_of_mem {xs : List Spt} (hd : ∀ x ∈ xs, ∀ y ∈ xs, x.p = y.p → x.s = y.s → x = y) {x : Spt} (hx : x ∈ xs) (h2 : x.c.f = 2) : mvF xs x.p x.s = some (rowV x) := by
  have key : ∀ (l : List Spt) (f : Int → Int → Option Value), (∀ y ∈ l, y.p = x.p → y.s = x.s → y = x) → (x ∈ l ∨ f x.p x.s = some (rowV x)) → (l.foldl mvS f) x.p x.s = some (rowV x) := by
    intro l
    induction l with
    | nil => intro f _ h; rcases h with h | h; simp at h; exact h
    | cons z l ih =>
      intro f hu h
      rw [List.foldl_cons]
      refine ih _ (fun y hy => hu y (by simp [hy])) ?_
      by_cases e : z.p = x.p ∧ z.s = x.s
      · have hz := hu z (by simp) e.1 e.2
        subst hz
        right
        unfold mvS upd
        rw [if_pos h2, if_pos ⟨rfl, rfl⟩]
      · rcases h with h | h
        · rcases List.mem_cons.1 h with rfl | h
          · exact absurd ⟨rfl, rfl⟩ e
          · exact .inl h
        · right
          unfold mvS upd
          split
          · show (if x.p = z.p ∧ x.s = z.s then some (rowV z) else f x.p x.s) = _
            rw [if_neg (fun h => e ⟨h.1.symm, h.2.symm⟩)]; exact h
          · exact h
  exact key xs _ (fun y hy h1 h2 => hd y hy x hx h1 h2) (.inl hx)

/-- What l6Cell tells of moved cells is what the map tells. -/
theorem lkC_mv {ps : List (List Int)} (hp : PgOk ps) (hq : pagesQ ps = 0) (p s : Int) :
    mvF (spotsOf 0 ps) p s = (match lkC ps p s with | some c => if c.f = 2 then some (.agg #[.int .i64 c.t, .int .i64 c.k, .int .i64 c.v, .string c.s]) else none | none => none) := by
  have hQ := pagesQ_zero hq
  have hm := fun x => spotsOf_mem ps 0 x hp hQ
  have hd : ∀ x ∈ spotsOf 0 ps, ∀ y ∈ spotsOf 0 ps, x.p = y.p → x.s = y.s → x = y := by
    intro x hx y hy h1 h2
    obtain ⟨i, zs, k, a1, a2, a3, rfl⟩ := (hm x).1 hx
    obtain ⟨i', zs', k', b1, b2, b3, rfl⟩ := (hm y).1 hy
    simp only at h1 h2
    have e1 : i = i' := by omega
    have e2 : k = k' := by omega
    subst e1 e2
    rw [a1] at b1
    cases b1
    rfl
  have fwd : ∀ c, lkC ps p s = some c → (⟨p, s, c⟩ : Spt) ∈ spotsOf 0 ps := by
    intro c h
    unfold lkC at h
    split at h
    · rename_i hin
      unfold inR at hin
      simp at hin
      split at h
      · rename_i zs hzs
        split at h
        · rename_i hh
          obtain ⟨k, rfl, h1, h2⟩ := hasC_slot hh
          simp at h
          refine (hm _).2 ⟨p.toNat, zs, k, hzs, h1, h2, ?_⟩
          rw [← h, Nat.zero_add]
          have : ((p.toNat : Nat) : Int) = p := by omega
          rw [this]
        · cases h
      · cases h
    · cases h
  cases hl : lkC ps p s with
  | some c =>
    simp only
    have hx := fwd c hl
    by_cases h2 : c.f = 2
    · rw [if_pos h2]; exact mvF_of_mem hd hx h2
    · rw [if_neg h2]
      cases hv : mvF (spotsOf 0 ps) p s with
      | none => rfl
      | some v =>
        obtain ⟨y, hy, hy2, hy3, hy4, _⟩ := mvF_at _ _ _ _ hv
        have := hd y hy _ hx hy3 hy4
        rw [this] at hy2
        exact absurd hy2 h2
  | none =>
    simp only
    cases hv : mvF (spotsOf 0 ps) p s with
    | none => rfl
    | some v =>
      obtain ⟨y, hy, hy2, hy3, hy4, _⟩ := mvF_at _ _ _ _ hv
      obtain ⟨i, zs, k, a1, a2, a3, rfl⟩ := (hm y).1 hy
      simp only [Nat.zero_add] at hy3 hy4
      subst hy3 hy4
      have hi : i < ps.length := (List.getElem?_eq_some_iff.1 a1).1
      have : lkC ps (i : Int) (k : Int) = some (unp (cellOf zs k)) := by
        unfold lkC
        rw [if_pos (by unfold inR; simp; omega), Int.toNat_natCast, a1]
        simp only
        rw [if_pos (hasC_of a2 a3), Int.toNat_natCast]
      rw [this] at hl
      cases hl

open Go.RowKit

def slotQ (zs : List Int) (x : Int) : Int := if fltOf zs = 0 then (if hasC zs x = true then 0 else 4) else fltOf zs
def slotB (zs : List Int) (x : Int) : List Int := if fltOf zs = 0 then (if hasC zs x = true then cellOf zs x.toNat else []) else []

/-- Block b holds the two cells of a BytesResult, and may be written. -/
structure BRes (w : World) (b : Nat) (q : Int) (v : Value) : Prop where
  c0 : w.cell? ⟨b, 0, none⟩ = some (.int .i64 q)
  c1 : w.cell? ⟨b, 1, none⟩ = some v
  f0 : w.frozen? ⟨b, 0, none⟩ = false
  f1 : w.frozen? ⟨b, 1, none⟩ = false
theorem BRes.lt {b : Nat} {w : World} {q : Int} {v : Value} (h : BRes w b q v) : b < w.heap.size := World.block_lt_of_cell? w _ h.c0
theorem BRes.below {b : Nat} {w w' : World} {q : Int} {v : Value} (h : BRes w b q v) (hb : Below w.heap.size w w') : BRes w' b q v :=
  ⟨(hb.cell (p := ⟨b, 0, none⟩) h.lt).trans h.c0, (hb.cell (p := ⟨b, 1, none⟩) h.lt).trans h.c1, (hb.frozen (p := ⟨b, 0, none⟩) h.lt).trans h.f0, (hb.frozen (p := ⟨b, 1, none⟩) h.lt).trans h.f1⟩

def SlS (w : World) (zs : List Int) (x y b p l : Nat) (V : World) : Prop := (∃ v : Value, V.cell? ⟨x, 1, none⟩ = some v) ∧ V.cell? ⟨x, 0, none⟩ = some (.int .i64 0) ∧ V.frozen? ⟨x, 0, none⟩ = false ∧ V.frozen? ⟨x, 1, none⟩ = false ∧ V.cell? ⟨y, 0, none⟩ = some (.int .u64 p) ∧ V.cell? ⟨y, 1, none⟩ = some (.int .u64 l) ∧ Arr V b zs ∧ Below w.heap.size w V
theorem slKeep {w : World} {zs : List Int} {x y b p l : Nat} {W V : World} (h : SlS w zs x y b p l W) (hb : Below W.heap.size W V) : SlS w zs x y b p l V := by
  obtain ⟨⟨v, h1⟩, h2, h3, h4, h5, h6, h7, h8⟩ := h
  have hx : x < W.heap.size := World.block_lt_of_cell? W _ h1
  have hy : y < W.heap.size := World.block_lt_of_cell? W _ h5
  exact ⟨⟨v, (hb.cell (p := ⟨x, 1, none⟩) hx).trans h1⟩, (hb.cell (p := ⟨x, 0, none⟩) hx).trans h2, (hb.frozen (p := ⟨x, 0, none⟩) hx).trans h3, (hb.frozen (p := ⟨x, 1, none⟩) hx).trans h4, (hb.cell (p := ⟨y, 0, none⟩) hy).trans h5, (hb.cell (p := ⟨y, 1, none⟩) hy).trans h6, h7.grown hb, h8.trans (hb.mono h8.size)⟩

set_option maxRecDepth 20000 in
set_option maxHeartbeats 2000000 in
theorem implSlotIn_any (a : Option Addr) (zs : List Int) (n c : Nat) (x : Int) (w : World) (hn : zs.length = n) (hm : n ≤ 1048576) (hnc : n ≤ c) (hr : Reads w a zs) (hz : ∀ z ∈ zs, 0 ≤ z ∧ z ≤ 255) (hx : (Lit.int .i64 x).wf = true) :
    Calls Tryz.prog 130 #[.slice a n c, .int .i64 x] w fun e w' => ∃ a' d, e = .returned (.agg #[.int .i64 (slotQ zs x), .slice a' (slotB zs x).length d]) ∧ Below w.heap.size w w' ∧ BytesIn w.heap.size w'.heap.size w' a' (slotB zs x) ∧ (slotB zs x).length ≤ d := by
  have hX : BRes (w.alloc (.cells #[.int .i64 0, .slice none 0 0] 183)) w.heap.size 0 (.slice none 0 0) := ⟨by simp [go_sem], by simp [go_sem], by simp [go_sem], by simp [go_sem]⟩
  have g : Below w.heap.size w (w.alloc (.cells #[.int .i64 0, .slice none 0 0] 183)) := by go_grown
  have hr := hr.below g (Nat.le_refl _)
  obtain ⟨X, hX0⟩ : ∃ X, w.alloc (.cells #[.int .i64 0, .slice none 0 0] 183) = X := ⟨_, rfl⟩
  rw [hX0] at hX g hr
  go_enter Tryz.func130, Tryz.ntmps130
  go_wp2_with fail
  refine (loadPage_all a zs n c _ hn hm hnc hr hz).mono ?_
  rintro e w1 ⟨rfl, g1⟩
  have hX1 := hX.below g1
  have g : Below w.heap.size w w1 := g.trans (g1.mono g.size)
  clear hX0 hX g1 hr
  have hpl := pg_len zs
  obtain ⟨ys, hys⟩ : ∃ ys, ys = pg zs := ⟨_, rfl⟩
  have HY : Hid (ys = pg zs) := hys
  rw [← hys] at hpl ⊢
  clear hys
  go_upto_region 2 with (refine wpList_storePg rfl _ _ rfl _ ys rfl rfl hpl (filled 0 0) (arr_new _ (filled 0 0) rfl) ?_)
  generalize hZ : World.setRow _ w1.heap.size (pgC ys) = Z
  have hA : Arr Z w1.heap.size ys := by rw [← hZ]; exact (arr_new w1 (filled 0 0) rfl).put hpl
  have gZ : Below w1.heap.size w1 Z := by rw [← hZ]; exact setRow_below ((Below.refl _ _).alloc (Nat.le_refl _) _) (Nat.le_refl _) _
  have hX2 := hX1.below gZ
  have g : Below w.heap.size w Z := g.trans (gZ.mono g.size)
  have hlt := hX1.lt
  clear hZ gZ hX1
  by_cases hq : fltOf zs = 0
  · have hF := fine_of hz hq
    have hyz : ys = zs := by rw [HY.out, pg, if_pos hF.pg.len]
    subst hyz
    have hfew := hF.few
    rw [hq]
    have HQ0 : Hid (fltOf ys = 0) := hq
    clear hq
    generalize w1.heap.size = b at hA hlt
    go_wp2_with (refine wpList_loadPg rfl _ rfl _ rfl ys (by assumption) ?_)
    refine (cellAt_any ys x _ hF.pg hfew hx).mono ?_
    rintro e w3 ⟨⟨p, l, rfl, hpl2⟩, g3⟩
    have hX3 := hX2.below g3
    have hA3 := hA.grown g3
    have g : Below w.heap.size w w3 := g.trans (g3.mono g.size)
    clear g3 hX2 hA
    go_upto_region 5 with (fail)
    generalize hV : World.alloc w3 _ = V
    have gV : Below w3.heap.size w3 V := by rw [← hV]; exact (Below.refl _ _).alloc (Nat.le_refl _) _
    have s0 : V.cell? ⟨w3.heap.size, 0, none⟩ = some (.int .u64 p) := by rw [← hV]; simp [go_sem]
    have s1 : V.cell? ⟨w3.heap.size, 1, none⟩ = some (.int .u64 l) := by rw [← hV]; simp [go_sem]
    have hX4 := hX3.below gV
    have hA4 := hA3.grown gV
    have g : Below w.heap.size w V := g.trans (gV.mono g.size)
    have hl3 : w.heap.size < w3.heap.size := hX3.lt
    clear hV gV hX3 hA3
    generalize w3.heap.size = y at s0 s1 hl3
    cases hh : hasC ys x
    · have HV : Hid (slotQ ys x = 4 ∧ slotB ys x = []) := by constructor <;> simp [slotQ, slotB, HQ0.out, hh]
      clear hh hpl2
      obtain ⟨c0, c1, f0, f1⟩ := hX4
      go_wp2_with fail
      refine bodyPost_ret (v := .agg #[.int .i64 4, .slice none 0 0]) (by simp [results, Tryz.results130, go_sem, c0, c1]) rfl ?_
      exact ⟨none, 0, by rw [HV.out.1, HV.out.2]; rfl, by go_grown, by rw [HV.out.2]; exact .inl rfl, by rw [HV.out.2]; exact Nat.le_refl _⟩
    · obtain ⟨s, rfl, hs, hem⟩ := hasC_slot hh
      obtain ⟨hp, hl⟩ := hpl2 hh
      rw [Int.toNat_natCast] at hp hl
      have HV : Hid (slotQ ys (s : Int) = 0 ∧ slotB ys (s : Int) = cellOf ys s) := by constructor <;> simp [slotQ, slotB, HQ0.out, hh]
      have hlen := cellOf_length hF s hs
      have hplace := hF.place s hs
      have hne : ¬ (p = 0 ∧ l = 0) := fun e => by simp [empB, ← hp, ← hl, e.1, e.2] at hem
      rw [← hp, ← hl] at hplace
      rw [← hl] at hlen
      have hcell : cellOf ys s = (ys.drop p).take l := by unfold cellOf; rw [← hp, ← hl]
      have HC : Hid (cellOf ys s = (ys.drop p).take l) := hcell
      have hpl64 : p ≠ 0 ∧ l ≠ 0 ∧ p + l ≤ 64 := by omega
      obtain ⟨hp0, hl0, hpl3⟩ := hpl64
      obtain ⟨q, hq⟩ : ∃ q, q = p + l := ⟨_, rfl⟩
      have HQ : Hid (p + l = q) := hq.symm
      have hq64 : (q : Int) ≤ 64 := by omega
      have hpq : (p : Int) ≤ (q : Int) := by omega
      have hql : q - p = l := by omega
      have hp64 : ¬ (64 = p) := by omega
      have hln : ((ys.drop p).take l).length = l := by rw [← hcell]; exact hlen
      have hyw : y ≠ w.heap.size := by omega
      clear hpl2 hp hl hplace hne hem hs hcell hq hlen
      obtain ⟨c0, c1, f0, f1⟩ := hX4
      go_upto_region 7 with (fail)
      clear hh
      refine wp_region_held_drew (S := fun V => (∃ v : Value, V.cell? ⟨w.heap.size, 1, none⟩ = some v) ∧ V.cell? ⟨w.heap.size, 0, none⟩ = some (.int .i64 0) ∧ V.frozen? ⟨w.heap.size, 0, none⟩ = false ∧ V.frozen? ⟨w.heap.size, 1, none⟩ = false ∧ V.cell? ⟨y, 0, none⟩ = some (.int .u64 p) ∧ V.cell? ⟨y, 1, none⟩ = some (.int .u64 l) ∧ Arr V b ys ∧ Below w.heap.size w V) (by kernel_rfl) (slKeep ⟨⟨_, c1⟩, c0, f0, f1, s0, s1, hA4, g⟩ (Below.refl _ _).drew) (fun hHeld => ?_)
      clear c0 c1 f0 f1 s0 s1 hA4 g
      refine tkH (i := 0) (v := .pointer (some ⟨y, 0, none⟩)) rfl (Or.inl ⟨by kernel_rfl, fun u hSw => by (try dsimp only at hSw); go_simp; try with_reducible rfl⟩) hHeld ?_
      try simp only [Act.put, tdy]
      refine tkH (i := 1) (v := .int .u64 p) rfl (Or.inl ⟨by kernel_rfl, fun u hSw => by (try dsimp only at hSw); go_simp; try with_reducible rfl⟩) hHeld ?_
      try simp only [Act.put, tdy]
      refine tkH (i := 2) (v := .agg #[.int .u64 p, .int .u64 l]) rfl (Or.inl ⟨by kernel_rfl, fun u hSw => by (try dsimp only at hSw); go_simp; try with_reducible rfl⟩) hHeld ?_
      try simp only [Act.put, tdy]
      refine wpAnyH_ready (rs := [3]) (by kernel_rfl) (by simp) ?_
      refine AllReadyH.cons rfl (fun K hK => ?_) AllReadyH.nil
      go_simp
      go_wp2_with (go_at_call 182; refine (spanEnd_any p l _ (by omega) (by omega)).mono ?_; rintro e w' ⟨rfl, hb⟩; rw [HQ.out])
      refine hK.out _ _ (slKeep hHeld hb) (fun hHeld => ?_)
      clear hK K
      try simp only [Act.put, tdy]
      refine tkH (i := 4) (v := .slice (some ⟨b, p, none⟩) l (64 - p)) rfl (Or.inl ⟨by kernel_rfl, fun u hSw => by (try dsimp only at hSw); go_simp; try with_reducible rfl⟩) hHeld ?_
      try simp only [Act.put, tdy]
      have hwp := hHeld.2.2.2.2.2.2.2.size
      have hwx := World.block_lt_of_cell? _ _ hHeld.2.1
      refine wpAnyH_ready (rs := [5]) (by kernel_rfl) (by simp) ?_
      refine AllReadyH.cons rfl (fun K hK => ?_) AllReadyH.nil
      go_simp
      go_wp2_with (go_at_call 87; refine (clone_gen (some ⟨b, p, none⟩) _ l (64 - p) _ hln (by omega) (Arr.cellReads hHeld.2.2.2.2.2.2.1 p l hpl3) (fun h => by cases h)).mono ?_; rintro e w' ⟨v9, rfl, hb, hv9⟩; obtain ⟨a', d, hv9e, hnd, _, hy, _⟩ := hv9.shape; rw [hln] at hv9e hnd; subst hv9e)
      refine hK.out _ _ (slKeep hHeld hb) (fun hHeld => ?_)
      clear hK K
      try simp only [Act.put, tdy]
      refine tkH (i := 6) (v := .agg #[.int .i64 0, .slice a' l d]) rfl (Or.inl ⟨by kernel_rfl, fun u hSw => by (try dsimp only at hSw); go_simp; try with_reducible rfl⟩) hHeld ?_
      try simp only [Act.put, tdy]
      refine wpAnyH_ready (rs := [7]) (by kernel_rfl) (by simp) ?_
      refine AllReadyH.cons rfl (fun K hK => ?_) AllReadyH.nil
      obtain ⟨⟨v, e1⟩, e0, f0, f1, x0, x1, hA, g⟩ := id hHeld
      go_simp
      go_wp2_with fail
      generalize hV : World.setCell (World.setCell _ _ _) _ _ = V
      have c0 : V.cell? ⟨w.heap.size, 0, none⟩ = some (.int .i64 0) := by rw [← hV]; simp [go_sem, e0]
      have c1 : V.cell? ⟨w.heap.size, 1, none⟩ = some (.slice a' l d) := by rw [← hV]; simp [go_sem, e1]
      have gV : Below w.heap.size w V := by rw [← hV]; exact (g.setCell (Nat.le_refl _) _).setCell (Nat.le_refl _) _
      have hyV : BytesIn w.heap.size V.heap.size V a' ((ys.drop p).take l) := by
        rw [← hV]
        exact ((hy.setCell (by simp; omega) _).setCell (by simp; omega) _).mono hwp (by simp)
      have hHeld : SlS w ys w.heap.size y b p l V := ⟨⟨_, c1⟩, c0, by rw [← hV, World.frozen?_setCell, World.frozen?_setCell]; exact f0, by rw [← hV, World.frozen?_setCell, World.frozen?_setCell]; exact f1, by rw [← hV]; simp [go_sem, x0], by rw [← hV]; simp [go_sem, x1], by rw [← hV]; exact (hA.other _ _ (by simp; omega)).other _ _ (by simp; omega), gV⟩
      clear hV e0 e1 f0 f1 x0 x1 g hA
      refine hK.out _ _ hHeld (fun hHeld => ?_)
      clear hK K
      refine wpAnyH_done (by kernel_rfl) ?_ _
      go_wp2_with fail
      refine bodyPost_ret (v := .agg #[.int .i64 0, .slice a' l d]) (by simp [results, Tryz.results130, go_sem, c0, c1]) rfl ?_
      exact ⟨a', d, by rw [HV.out.1, HV.out.2, HC.out, hln], gV, by rw [HV.out.2, HC.out]; exact hyV, by rw [HV.out.2, HC.out, hln]; exact hnd⟩
  · have HV : Hid (slotQ zs x = fltOf zs ∧ slotB zs x = []) := by constructor <;> simp [slotQ, slotB, hq]
    have dq : (fltOf zs != 0) = true := by simpa using hq
    obtain ⟨q, hqq⟩ : ∃ q, q = fltOf zs := ⟨_, rfl⟩
    rw [← hqq] at HV dq ⊢
    clear hq hqq
    obtain ⟨c0, c1, f0, f1⟩ := hX2
    go_wp2_with fail
    refine bodyPost_ret (v := .agg #[.int .i64 q, .slice none 0 0]) (by simp [results, Tryz.results130, go_sem, c0, c1]) rfl ?_
    exact ⟨none, 0, by rw [HV.out.1, HV.out.2]; rfl, by go_grown, by rw [HV.out.2]; exact .inl rfl, by rw [HV.out.2]; exact Nat.le_refl _⟩

set_option maxRecDepth 20000

/-- What CompactPage answers: its code, its page. -/
def cqQ (zs : List Int) : Int := fltOf zs
def cqB (zs : List Int) : List Int := if fltOf zs = 0 then cpP zs (nb zs 0) else []

/-- What the loop carries beside the packed page. -/
structure CpS (w : World) (b : Nat) (ys : List Int) (V : World) : Prop where
  a : Arr V b ys
  x : PRes V w.heap.size 0 0 (.slice none 0 0)
  g : Below w.heap.size w V
theorem CpS.below {w : World} {b : Nat} {ys : List Int} {W V : World} (h : CpS w b ys W) (hb : Below W.heap.size W V) : CpS w b ys V := ⟨h.a.grown hb, h.x.grown hb, h.g.trans (hb.mono h.g.size)⟩
theorem CpS.turned {w : World} {b pb : Nat} {ys : List Int} {W V : World} (h : CpS w b ys W) (ht : Turned pb (pb + 1) W V) (hn : w.heap.size < b ∧ b < pb) : CpS w b ys V := ⟨h.a.turned ht (.inl hn.2), h.x.turned ht (.inl (by omega)), h.g.trans (ht.toBelow h.g.size (by omega))⟩
theorem CpS.rd {w : World} {b k : Nat} {ys : List Int} {W : World} (h : CpS w b ys W) (p l : Nat) (e : cellOf ys k = (ys.drop p).take l) (hl : p + l ≤ 64) : Reads W (some ⟨b, p, none⟩) (cellOf ys k) := by
  rw [e]
  exact h.a.cellReads p l hl
theorem cpKeep {w : World} {b y : Nat} {p l : Int} {ys : List Int} {W V : World} (h : W.cell? ⟨y, 0, none⟩ = some (.int .u64 p) ∧ W.cell? ⟨y, 1, none⟩ = some (.int .u64 l) ∧ CpS w b ys W) (hb : Below W.heap.size W V) :
    V.cell? ⟨y, 0, none⟩ = some (.int .u64 p) ∧ V.cell? ⟨y, 1, none⟩ = some (.int .u64 l) ∧ CpS w b ys V :=
  ⟨(hb.cell (World.block_lt_of_cell? W _ h.1)).trans h.1, (hb.cell (World.block_lt_of_cell? W _ h.2.1)).trans h.2.1, h.2.2.below hb⟩
theorem cpTurn {w : World} {b y pb : Nat} {p l : Int} {ys : List Int} {W V : World} (h : W.cell? ⟨y, 0, none⟩ = some (.int .u64 p) ∧ W.cell? ⟨y, 1, none⟩ = some (.int .u64 l) ∧ CpS w b ys W) (ht : Turned pb (pb + 1) W V) (hy : pb < y) (hn : w.heap.size < b ∧ b < pb) :
    V.cell? ⟨y, 0, none⟩ = some (.int .u64 p) ∧ V.cell? ⟨y, 1, none⟩ = some (.int .u64 l) ∧ CpS w b ys V :=
  ⟨ht.cell h.1 (by simp only; omega), ht.cell h.2.1 (by simp only; omega), h.2.2.turned ht hn⟩

end Go.Proofs.YtnfolgoloaeanaaGreat

