/-
  The model's l6Cell, of right pages; what it tells of moved cells.
-/
import Derived.Test.YtnfolgoloaeanaaGreatIMsp
import Derived.Test.YtnfolgoloaeanaaGreatIVci
import Derived.Test.YtnfolgoloaeanaaGreatIDee
import Derived.Test.YtnfolgoloaeanaaGreatIApn

namespace Go.Proofs.YtnfolgoloaeanaaGreat
open Go.RowKit Go.Maps
set_option linter.unusedVariables false

/-- The cell of a page and slot. -/
def lkC (ps : List (List Int)) (p s : Int) : Option Cel :=
  if inR p 0 ((ps.length : Int) - 1) = true then (match ps[p.toNat]? with | some zs => if hasC zs s = true then some (unp (cellOf zs s.toNat)) else none | none => none) else none
def zC : Cel := ⟨0, 0, 0, 0, 0, 0, 0, ⟨#[]⟩⟩

theorem hasC_slot {zs : List Int} {x : Int} (h : hasC zs x = true) : ∃ s : Nat, x = (s : Int) ∧ s < nb zs 0 ∧ empB zs s = false := by
  unfold hasC inR at h
  simp at h
  exact ⟨x.toNat, by omega, by omega, h.2⟩
theorem hasC_of {zs : List Int} {s : Nat} (h1 : s < nb zs 0) (h2 : empB zs s = false) : hasC zs (s : Int) = true := by
  unfold hasC inR
  simp [h2]
  omega

set_option maxRecDepth 20000 in
set_option maxHeartbeats 4000000 in
theorem l6Cell_any (a : Option Addr) (ps : List (List Int)) (n c : Nat) (p s : Int) (w : World) (hn : ps.length = n) (hm : n ≤ 12) (hp : PgOk ps) (hr : PgRead w a ps) (hq : pagesQ ps = 0) (hps : small p) (hss : small s) :
    Calls Tryz.prog 162 #[.slice a n c, .int .i64 p, .int .i64 s] w fun e w' => e = .returned (.tuple #[celV ((lkC ps p s).getD zC), .bool (lkC ps p s).isSome]) ∧ Below w.heap.size w w' := by
  have hQ := pagesQ_zero hq
  have hX : CelOwn (w.alloc (.cells #[.int .i64 0, .int .i64 0, .int .i64 0, .int .i64 0, .int .i64 0, .int .i64 0, .int .i64 0, .string ⟨#[]⟩] 93)) w.heap.size := ⟨by simp [go_sem], by simp [go_sem], by simp [go_sem], by simp [go_sem], by simp [go_sem], by simp [go_sem], by simp [go_sem], by simp [go_sem], by simp [go_sem], by simp [go_sem], by simp [go_sem], by simp [go_sem], by simp [go_sem], by simp [go_sem], by simp [go_sem], by simp [go_sem]⟩
  have gX : Below w.heap.size w (w.alloc (.cells #[.int .i64 0, .int .i64 0, .int .i64 0, .int .i64 0, .int .i64 0, .int .i64 0, .int .i64 0, .string ⟨#[]⟩] 93)) := by go_grown
  have hlt0 : w.heap.size < (w.alloc (.cells #[.int .i64 0, .int .i64 0, .int .i64 0, .int .i64 0, .int .i64 0, .int .i64 0, .int .i64 0, .string ⟨#[]⟩] 93)).heap.size := by simp
  obtain ⟨X, hX0⟩ : ∃ X, w.alloc (.cells #[.int .i64 0, .int .i64 0, .int .i64 0, .int .i64 0, .int .i64 0, .int .i64 0, .int .i64 0, .string ⟨#[]⟩] 93) = X := ⟨_, rfl⟩
  rw [hX0] at hX gX hlt0
  have hr := hr.below gX (Nat.le_refl _)
  obtain ⟨p0, p1⟩ := hps
  have HZE : Hid (∀ v, v = none → lkC ps p s = v → celV ((lkC ps p s).getD zC) = .agg #[.int .i64 0, .int .i64 0, .int .i64 0, .int .i64 0, .int .i64 0, .int .i64 0, .int .i64 0, .string ⟨#[]⟩] ∧ (lkC ps p s).isSome = false) := fun v hv h => by rw [h, hv]; exact ⟨rfl, rfl⟩
  have hwn : IntKind.i64.wrap ((n : Int) - 1) = (n : Int) - 1 := by simp [IntKind.wrap, IntKind.bits, IntKind.signed]; omega
  cases hin : inR p 0 ((n : Int) - 1)
  · have HL : Hid (lkC ps p s = none) := by show _ = _; unfold lkC; rw [hn, hin]; rfl
    obtain ⟨HV1, HV2⟩ := HZE.out none rfl HL.out
    have HV1 : Hid (_) := HV1
    have HV2 : Hid (_) := HV2
    clear HZE hQ
    obtain ⟨c0, c1, c2, c3, c4, c5, c6, c7, f0, f1, f2, f3, f4, f5, f6, f7⟩ := hX
    go_enter Tryz.func162, Tryz.ntmps162
    go_wp2_with fail
    refine (l1In_any _ _ _ _).mono ?_
    rintro e w' ⟨rfl, hw'⟩
    subst w'
    rw [hin]
    go_wp2_with fail
    refine bodyPost_ret (v := .tuple #[.agg #[.int .i64 0, .int .i64 0, .int .i64 0, .int .i64 0, .int .i64 0, .int .i64 0, .int .i64 0, .string ⟨#[]⟩], .bool false]) (by simp [results, Tryz.results162, go_sem, *]) rfl ?_
    exact ⟨by rw [HV1.out, HV2.out], by go_grown⟩
  · have hin' := hin
    unfold inR at hin'
    simp at hin'
    obtain ⟨i, rfl⟩ : ∃ i : Nat, p = i := ⟨p.toNat, by omega⟩
    have hlt : i < n := by omega
    obtain ⟨zs, hzs⟩ := at_lt' (rs := ps) (i := i) (by omega)
    obtain ⟨b, off, x, cx, rfl, e0, hcx, hx⟩ := hr.page hzs
    have hzz := (hp zs (List.mem_of_getElem? hzs)).2
    have hRt := right_of hzz (hQ zs (List.mem_of_getElem? hzs))
    have HL : Hid (lkC ps i s = if hasC zs s = true then some (unp (cellOf zs s.toNat)) else none) := by
      show _ = _
      unfold lkC
      rw [hn, hin, if_pos rfl, Int.toNat_natCast, hzs]
    have hb0 : b < X.heap.size := World.block_lt_of_cell? X _ e0
    have HE : Hid (∀ W, Below X.heap.size X W → W.cell? ⟨b, off + i, none⟩ = some (.slice x 64 cx) ∧ Reads W x zs) := fun W hW => by
      rw [← hRt.f.pg.len]
      exact ⟨(hW.cell (p := ⟨b, _, none⟩) hb0).trans e0, hx.below hW (Nat.le_refl _)⟩
    rw [hRt.f.pg.len] at hcx
    have HF : Hid (Right zs) := hRt
    have HZ : Hid (∀ z ∈ zs, 0 ≤ z ∧ z ≤ 255) := hzz
    clear e0 hx hRt hzz hr hQ hp
    obtain ⟨e0, hx⟩ := HE.out _ (Below.refl _ _)
    have HX : Hid (Reads X x zs) := hx
    have hss' := small_wf hss
    have hii : (i : Int) < (n : Int) := by omega
    clear hx
    cases hh : hasC zs s
    · have HL2 : Hid (lkC ps i s = none) := by show _ = _; rw [HL.out, hh]; rfl
      obtain ⟨HV1, HV2⟩ := HZE.out none rfl HL2.out
      have HV1 : Hid (_) := HV1
      have HV2 : Hid (_) := HV2
      clear HZE
      obtain ⟨c0, c1, c2, c3, c4, c5, c6, c7, f0, f1, f2, f3, f4, f5, f6, f7⟩ := hX
      go_enter Tryz.func162, Tryz.ntmps162
      go_wp2_with fail
      refine (l1In_any _ _ _ _).mono ?_
      rintro e w' ⟨rfl, hw'⟩
      subst w'
      rw [hin]
      clear hin
      go_wp2_with fail
      refine (l2Has_any x zs cx s _ HX.out HF.out.f hss').mono ?_
      rintro e w' ⟨rfl, hw'⟩
      subst w'
      rw [hh]
      clear hh
      go_wp2_with fail
      refine bodyPost_ret (v := .tuple #[.agg #[.int .i64 0, .int .i64 0, .int .i64 0, .int .i64 0, .int .i64 0, .int .i64 0, .int .i64 0, .string ⟨#[]⟩], .bool false]) (by simp [results, Tryz.results162, go_sem, *]) rfl ?_
      exact ⟨by rw [HV1.out, HV2.out], by go_grown⟩
    · obtain ⟨k, rfl, hk, he⟩ := hasC_slot hh
      have hzc : ∀ z ∈ cellOf zs k, 0 ≤ z ∧ z ≤ 255 := fun z hz' => HZ.out z (List.mem_of_mem_drop (List.mem_of_mem_take hz'))
      have hclen := cellOf_length HF.out.f k hk
      have hq0 := HF.out.b k hk he
      have HCl : Hid (∀ W, Reads W x zs → Calls Tryz.prog 161 #[.slice x 64 cx, .int .i64 k] W fun e w' => ∃ a' d, e = .returned (.slice a' (nb zs (3 + 2 * k)) d) ∧ nb zs (3 + 2 * k) ≤ d ∧ Below W.heap.size W w' ∧ BytesIn W.heap.size w'.heap.size w' a' (cellOf zs k)) := fun W hW => l2CellC_any x zs cx k W hW HF.out.f hcx hk he
      obtain ⟨cq, cf, cp, cl, ct, ck, cv, cs, hu⟩ := celV_form (unp (cellOf zs k))
      have HRd : Hid (∀ W a' d, nb zs (3 + 2 * k) ≤ d → Reads W a' (cellOf zs k) → Calls Tryz.prog 160 #[.slice a' (nb zs (3 + 2 * k)) d] W fun e w' => e = .returned (.tuple #[.agg #[.int .i64 cq, .int .i64 cf, .int .i64 cp, .int .i64 cl, .int .i64 ct, .int .i64 ck, .int .i64 cv, .string cs], .bool true]) ∧ Below W.heap.size W w') := fun W a' d hd hW => by
        have := l1Read_any a' (cellOf zs k) _ d W hclen hd hW hzc
        rw [(read_unp hq0).1, (read_unp hq0).2, hu] at this
        exact this
      have HL2 : Hid (celV ((lkC ps i k).getD zC) = .agg #[.int .i64 cq, .int .i64 cf, .int .i64 cp, .int .i64 cl, .int .i64 ct, .int .i64 ck, .int .i64 cv, .string cs] ∧ (lkC ps i k).isSome = true) := by
        show _ ∧ _
        rw [HL.out, hh, if_pos rfl, Int.toNat_natCast, hu]
        exact ⟨rfl, rfl⟩
      generalize nb zs (3 + 2 * k) = l at HCl HRd
      clear HZE hzc hclen hq0 hu hk he
      go_enter Tryz.func162, Tryz.ntmps162
      go_wp2_with fail
      refine (l1In_any _ _ _ _).mono ?_
      rintro e w' ⟨rfl, hw'⟩
      subst w'
      rw [hin]
      clear hin
      go_wp2_with fail
      refine (l2Has_any x zs cx k _ HX.out HF.out.f hss').mono ?_
      rintro e w' ⟨rfl, hw'⟩
      subst w'
      rw [hh]
      clear hh
      go_wp2_with fail
      refine (HCl.out _ HX.out).mono ?_
      rintro e w2 ⟨a2, d2, rfl, hd2, g2, y2⟩
      have r2 := y2.reads
      have hX2 := hX.below g2 hlt0
      have g3 := gX.trans (g2.mono gX.size)
      have hlt2 := Nat.lt_of_lt_of_le hlt0 g2.size
      clear y2 g2 e0 hX
      go_wp2_with fail
      refine (HRd.out _ a2 d2 hd2 r2).mono ?_
      rintro e w3 ⟨rfl, g4⟩
      have hX3 := hX2.below g4 hlt2
      have g5 := g3.trans (g4.mono g3.size)
      have hgs5 := g5.size
      clear r2 g4 g3 hX2
      obtain ⟨c0, c1, c2, c3, c4, c5, c6, c7, f0, f1, f2, f3, f4, f5, f6, f7⟩ := hX3
      go_wp2_with fail
      refine bodyPost_ret (v := .tuple #[.agg #[.int .i64 cq, .int .i64 cf, .int .i64 cp, .int .i64 cl, .int .i64 ct, .int .i64 ck, .int .i64 cv, .string cs], .bool true]) (by simp [results, Tryz.results162, go_sem, *]) rfl ?_
      exact ⟨by rw [HL2.out.1, HL2.out.2], by go_grown⟩

/-- The places of cells. -/
theorem spotsOf_mem : ∀ (l : List (List Int)) (p : Nat) (x : Spt), PgOk l → (∀ zs ∈ l, pageC zs = 0) → (x ∈ spotsOf p l ↔ ∃ i zs s, l[i]? = some zs ∧ s < nb zs 0 ∧ empB zs s = false ∧ x = ⟨(p + i : Nat), (s : Nat), unp (cellOf zs s)⟩)
  | [], p, x, _, _ => by simp [spotsOf]
  | z :: l, p, x, hp, hq => by
    have ih := spotsOf_mem l (p + 1) x (fun y hy => hp y (by simp [hy])) (fun y hy => hq y (by simp [hy]))
    have hpc := hq z (by simp)
    simp only [spotsOf, List.mem_append, ih, pageL_right hpc]
    constructor
    · rintro (h | ⟨i, zs, s, h1, h2, h3, h4⟩)
      · obtain ⟨s, h1, h2, h3⟩ := cellsTo_mem _ _ _ _ h
        exact ⟨0, z, s, rfl, h1, h2, h3⟩
      · exact ⟨i + 1, zs, s, by simpa using h1, h2, h3, by rw [h4, show p + 1 + i = p + (i + 1) by omega]⟩
    · rintro ⟨i, zs, s, h1, h2, h3, h4⟩
      cases i with
      | zero =>
        simp at h1
        subst h1
        refine .inl ?_
        rw [h4]
        have : ∀ n, s < n → (⟨((p + 0 : Nat) : Int), (s : Int), unp (cellOf z s)⟩ : Spt) ∈ cellsTo p z n := by
          intro n
          induction n with
          | zero => intro h; omega
          | succ n ihn =>
            intro h
            simp only [cellsTo, List.mem_append]
            by_cases e : s = n
            · subst e; right; unfold oneC; rw [h3]; simp
            · left; exact ihn (by omega)
        exact this _ h2
      | succ i => exact .inr ⟨i, zs, s, by simpa using h1, h2, h3, by rw [h4, show p + 1 + i = p + (i + 1) by omega]⟩

theorem mvF_of_mem {xs : List Spt} (hd : ∀ x ∈ xs, ∀ y ∈ xs, x.p = y.p → x.s = y.s → x = y) {x : Spt} (hx : x ∈ xs) (h2 : x.c.f = 2) : mvF xs x.p x.s = some (rowV x) := by
  have key : ∀ (l : List Spt) (f : Int → Int → Option Value), (∀ y ∈ l, y.p = x.p → y.s = x.s → y = x) → (x ∈ l ∨ f x.p x.s = some (rowV x)) → (l.foldl mvS f) x.p x.s = some (rowV x) := by
    intro l
    induction l with
    | nil => intro f _ h; rcases h with h | h; simp at h; exact h
    | cons z l ih =>
      intro f hu h
      rw [List.foldl_cons]
      refine ih _ (fun y hy => hu y (by simp [hy])) ?_
      by_cases e : z.p = x.p ∧ z.s = x.s
      · have hz := hu z (by simp) e.1 e.2
        subst hz
        right
        unfold mvS upd
        rw [if_pos h2, if_pos ⟨rfl, rfl⟩]
      · rcases h with h | h
        · rcases List.mem_cons.1 h with rfl | h
          · exact absurd ⟨rfl, rfl⟩ e
          · exact .inl h
        · right
          unfold mvS upd
          split
          · show (if x.p = z.p ∧ x.s = z.s then some (rowV z) else f x.p x.s) = _
            rw [if_neg (fun h => e ⟨h.1.symm, h.2.symm⟩)]; exact h
          · exact h
  exact key xs _ (fun y hy h1 h2 => hd y hy x hx h1 h2) (.inl hx)

/-- What l6Cell tells of moved cells is what the map tells. -/
theorem lkC_mv {ps : List (List Int)} (hp : PgOk ps) (hq : pagesQ ps = 0) (p s : Int) :
    mvF (spotsOf 0 ps) p s = (match lkC ps p s with | some c => if c.f = 2 then some (.agg #[.int .i64 c.t, .int .i64 c.k, .int .i64 c.v, .string c.s]) else none | none => none) := by
  have hQ := pagesQ_zero hq
  have hm := fun x => spotsOf_mem ps 0 x hp hQ
  have hd : ∀ x ∈ spotsOf 0 ps, ∀ y ∈ spotsOf 0 ps, x.p = y.p → x.s = y.s → x = y := by
    intro x hx y hy h1 h2
    obtain ⟨i, zs, k, a1, a2, a3, rfl⟩ := (hm x).1 hx
    obtain ⟨i', zs', k', b1, b2, b3, rfl⟩ := (hm y).1 hy
    simp only at h1 h2
    have e1 : i = i' := by omega
    have e2 : k = k' := by omega
    subst e1 e2
    rw [a1] at b1
    cases b1
    rfl
  have fwd : ∀ c, lkC ps p s = some c → (⟨p, s, c⟩ : Spt) ∈ spotsOf 0 ps := by
    intro c h
    unfold lkC at h
    split at h
    · rename_i hin
      unfold inR at hin
      simp at hin
      split at h
      · rename_i zs hzs
        split at h
        · rename_i hh
          obtain ⟨k, rfl, h1, h2⟩ := hasC_slot hh
          simp at h
          refine (hm _).2 ⟨p.toNat, zs, k, hzs, h1, h2, ?_⟩
          rw [← h, Nat.zero_add]
          have : ((p.toNat : Nat) : Int) = p := by omega
          rw [this]
        · cases h
      · cases h
    · cases h
  cases hl : lkC ps p s with
  | some c =>
    simp only
    have hx := fwd c hl
    by_cases h2 : c.f = 2
    · rw [if_pos h2]; exact mvF_of_mem hd hx h2
    · rw [if_neg h2]
      cases hv : mvF (spotsOf 0 ps) p s with
      | none => rfl
      | some v =>
        obtain ⟨y, hy, hy2, hy3, hy4, _⟩ := mvF_at _ _ _ _ hv
        have := hd y hy _ hx hy3 hy4
        rw [this] at hy2
        exact absurd hy2 h2
  | none =>
    simp only
    cases hv : mvF (spotsOf 0 ps) p s with
    | none => rfl
    | some v =>
      obtain ⟨y, hy, hy2, hy3, hy4, _⟩ := mvF_at _ _ _ _ hv
      obtain ⟨i, zs, k, a1, a2, a3, rfl⟩ := (hm y).1 hy
      simp only [Nat.zero_add] at hy3 hy4
      subst hy3 hy4
      have hi : i < ps.length := (List.getElem?_eq_some_iff.1 a1).1
      have : lkC ps (i : Int) (k : Int) = some (unp (cellOf zs k)) := by
        unfold lkC
        rw [if_pos (by unfold inR; simp; omega), Int.toNat_natCast, a1]
        simp only
        rw [if_pos (hasC_of a2 a3), Int.toNat_natCast]
      rw [this] at hl
      cases hl

end Go.Proofs.YtnfolgoloaeanaaGreat

/-
  The contracts of both SlotIn.
-/
namespace Go.Proofs.YtnfolgoloaeanaaGreat
open Go.RowKit
set_option linter.unusedVariables false

/-- Block b holds the two cells of a BytesResult, and may be written. -/
structure BRes (w : World) (b : Nat) (q : Int) (v : Value) : Prop where
  c0 : w.cell? ⟨b, 0, none⟩ = some (.int .i64 q)
  c1 : w.cell? ⟨b, 1, none⟩ = some v
  f0 : w.frozen? ⟨b, 0, none⟩ = false
  f1 : w.frozen? ⟨b, 1, none⟩ = false
theorem BRes.lt {b : Nat} {w : World} {q : Int} {v : Value} (h : BRes w b q v) : b < w.heap.size := World.block_lt_of_cell? w _ h.c0
theorem BRes.below {b : Nat} {w w' : World} {q : Int} {v : Value} (h : BRes w b q v) (hb : Below w.heap.size w w') : BRes w' b q v :=
  ⟨(hb.cell (p := ⟨b, 0, none⟩) h.lt).trans h.c0, (hb.cell (p := ⟨b, 1, none⟩) h.lt).trans h.c1, (hb.frozen (p := ⟨b, 0, none⟩) h.lt).trans h.f0, (hb.frozen (p := ⟨b, 1, none⟩) h.lt).trans h.f1⟩

end Go.Proofs.YtnfolgoloaeanaaGreat

