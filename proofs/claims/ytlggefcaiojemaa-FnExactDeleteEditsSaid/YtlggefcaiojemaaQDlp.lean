/-
  Plain facts: what is found in right pages has a cell there, and one more where it is a stub; what is left when they are dropped.
-/
import Derived.Test.YtlggefcaiojemaaQFnr
import Derived.Test.YtlggefcaiojemaaQDrf
import Derived.Test.YtlggefcaiojemaaQMae
import Derived.Test.YtlggefcaiojemaaQLtu
import Derived.Test.YtlggefcaiojemaaQDsl

namespace Go.Proofs.Ytlggefcaiojemaa
open Go.RowKit
set_option linter.unusedVariables false

/-- Page pn of ps is zs, without a fault, and its slot sn has a cell. -/
structure CelIn (ps : List (List Int)) (pn sn : Nat) (zs : List Int) : Prop where
  at' : ps[pn]? = some zs
  ok : Fine zs
  has : hasC zs sn = true
theorem CelIn.lt {ps : List (List Int)} {pn sn : Nat} {zs : List Int} (h : CelIn ps pn sn zs) : sn < nb zs 0 := ((hasC_iff sn).1 h.has).1
theorem CelIn.small {ps : List (List Int)} {pn sn : Nat} {zs : List Int} (h : CelIn ps pn sn zs) : sn < 16 := Nat.lt_of_lt_of_le h.lt h.ok.few
theorem CelIn.plt {ps : List (List Int)} {pn sn : Nat} {zs : List Int} (h : CelIn ps pn sn zs) : pn < ps.length := (List.getElem?_eq_some_iff.1 h.at').1

theorem spot_at {ps : List (List Int)} (hp : PgOk ps) (hq : pagesQ ps = 0) {x : Spt} (hx : x ∈ spotsOf 0 ps) : ∃ pn sn zs, CelIn ps pn sn zs ∧ x = ⟨(pn : Nat), (sn : Nat), unp (cellOf zs sn)⟩ := by
  obtain ⟨i, zs, s, h1, h2, h3, h4⟩ := (spotsOf_mem ps 0 x hp (pagesQ_zero hq)).1 hx
  have hm := List.mem_of_getElem? h1
  have hf := fine_of (hp zs hm).2 (pageC_fine (pagesQ_zero hq zs hm)).1
  exact ⟨i, s, zs, ⟨h1, hf, (hasC_iff s).2 ⟨h2, h3⟩⟩, by rw [h4, Nat.zero_add]⟩

/-- What is found: a row in its own cell, or a stub and the cell that it tells. -/
structure FndAt (ps : List (List Int)) (z : Spt) (pn sn : Nat) (zs : List Int) : Prop where
  c : CelIn ps pn sn zs
  p : z.p = (pn : Nat)
  s : z.s = (sn : Nat)
  q : (unp (cellOf zs sn)).q = 0
  f : (unp (cellOf zs sn)).f = z.c.f
  f2 : z.c.f = 0 ∨ z.c.f = 1
  tp : z.c.f = 1 → (unp (cellOf zs sn)).p = z.c.p ∧ (unp (cellOf zs sn)).l = z.c.l
  stub : z.c.f = 1 → ∃ pm sm ys, CelIn ps pm sm ys ∧ z.c.p = (pm : Nat) ∧ z.c.l = (sm : Nat) ∧ ¬ (pm = pn ∧ sm = sn)

theorem found_at {ps : List (List Int)} (hp : PgOk ps) (h12 : ps.length ≤ 12) (hq : pagesQ ps = 0) (hno : noneB (mvF (spotsOf 0 ps)) (spotsOf 0 ps) = false) {t k : Int} {z : Spt} (hz : fndS (snF (mvF (spotsOf 0 ps)) (spotsOf 0 ps)) t k = some z) : ∃ pn sn zs, FndAt ps z pn sn zs := by
  have hm := List.mem_of_find?_eq_some hz
  obtain ⟨x, hx, hzx⟩ := List.mem_flatMap.1 hm
  obtain ⟨pn, sn, zs, hc, hxe⟩ := spot_at hp hq hx
  have hok := spotsOf_ok ps 0 (by omega) hp x hx
  have hcx : x.c = unp (cellOf zs sn) := by rw [hxe]
  refine ⟨pn, sn, zs, ?_⟩
  unfold sn1 at hzx
  split at hzx
  · simp at hzx
  · rename_i h2
    split at hzx
    · rename_i h1
      simp at hzx
      have ht : ∃ v, mvF (spotsOf 0 ps) x.c.p x.c.l = some v := by
        cases hv : mvF (spotsOf 0 ps) x.c.p x.c.l with
        | some v => exact ⟨v, rfl⟩
        | none =>
          exfalso
          unfold noneB at hno
          rw [List.any_eq_false] at hno
          exact hno x hx (by simp [h1, hv])
      obtain ⟨v, hv⟩ := ht
      obtain ⟨y, hy, hy2, hyp, hys, _⟩ := mvF_at _ _ _ _ hv
      obtain ⟨pm, sm, ys, hcy, hye⟩ := spot_at hp hq hy
      have zf : z.c.f = 1 := by rw [hzx]; exact h1
      have zp : z.c.p = x.c.p := by rw [hzx]
      have zl : z.c.l = x.c.l := by rw [hzx]
      refine ⟨hc, by rw [hzx, hxe], by rw [hzx, hxe], by rw [← hcx]; exact hok.q, by rw [← hcx, zf, h1], .inr zf, fun _ => by rw [← hcx, zp, zl]; exact ⟨rfl, rfl⟩, fun _ => ⟨pm, sm, ys, hcy, by rw [zp, ← hyp, hye], by rw [zl, ← hys, hye], ?_⟩⟩
      rintro ⟨rfl, rfl⟩
      have e : zs = ys := by have := hc.at'.symm.trans hcy.at'; injection this
      subst e
      rw [hxe] at h1
      rw [hye] at hy2
      simp only at h1 hy2
      omega
    · rename_i h1
      simp at hzx
      subst hzx
      have hf0 : z.c.f = 0 := by rcases hok.f with h | h | h <;> omega
      exact ⟨hc, by rw [hxe], by rw [hxe], by rw [← hcx]; exact hok.q, by rw [hcx], .inl hf0, fun h => absurd h h1, fun h => absurd h h1⟩

/-- A cell is dropped: one edit more, and the page is another one. -/
def delOne (a : List (Int × List Int) × List (List Int)) (p s : Nat) : List (Int × List Int) × List (List Int) := (a.1 ++ [((p : Int), drpP (a.2.getD p []) s)], a.2.set p (drpP (a.2.getD p []) s))
def delR (ps : List (List Int)) (z : Spt) : List (Int × List Int) × List (List Int) := if z.c.f = 1 then delOne (delOne ([], ps) z.p.toNat z.s.toNat) z.c.p.toNat z.c.l.toNat else delOne ([], ps) z.p.toNat z.s.toNat

theorem FndAt.row {ps : List (List Int)} {z : Spt} {pn sn : Nat} {zs : List Int} (h : FndAt ps z pn sn zs) (hf : z.c.f = 0) : delR ps z = ([((pn : Int), drpP zs sn)], ps.set pn (drpP zs sn)) := by
  unfold delR
  rw [if_neg (by omega), h.p, h.s, Int.toNat_natCast, Int.toNat_natCast]
  simp [delOne, List.getD, h.c.at']

theorem FndAt.two {ps : List (List Int)} {z : Spt} {pn sn : Nat} {zs : List Int} (h : FndAt ps z pn sn zs) (hf : z.c.f = 1) : ∃ pm sm ys, z.c.p = (pm : Nat) ∧ z.c.l = (sm : Nat) ∧ ¬ (pm = pn ∧ sm = sn) ∧ CelIn (ps.set pn (drpP zs sn)) pm sm ys ∧
    delR ps z = ([((pn : Int), drpP zs sn), ((pm : Int), drpP ys sm)], (ps.set pn (drpP zs sn)).set pm (drpP ys sm)) := by
  obtain ⟨pm, sm, ys, hc, e1, e2, hn⟩ := h.stub hf
  have hl := h.c.plt
  have key : ∃ us, CelIn (ps.set pn (drpP zs sn)) pm sm us := by
    by_cases e : pm = pn
    · subst e
      have ezs : zs = ys := by have := h.c.at'.symm.trans hc.at'; injection this
      subst ezs
      exact ⟨drpP zs sn, List.getElem?_set_self hl, fine_drop h.c.ok h.c.lt, has_drop h.c.ok h.c.lt hc.has (fun e => hn ⟨rfl, e⟩)⟩
    · exact ⟨ys, by rw [List.getElem?_set_ne (fun e' => e e'.symm)]; exact hc.at', hc.ok, hc.has⟩
  obtain ⟨us, hu⟩ := key
  refine ⟨pm, sm, us, e1, e2, hn, hu, ?_⟩
  unfold delR
  rw [if_pos hf, h.p, h.s, e1, e2, Int.toNat_natCast, Int.toNat_natCast, Int.toNat_natCast, Int.toNat_natCast]
  have g1 : ps.getD pn [] = zs := by simp [List.getD, h.c.at']
  have g2 : (ps.set pn (drpP zs sn)).getD pm [] = us := by simp only [List.getD, hu.at']; rfl
  simp only [delOne, g1, g2, List.nil_append, List.cons_append]

/-- What DeleteEdits finds, and what it answers. -/
def deZ (ps : List (List Int)) (t k : Int) : Option Spt := if viewQ ps = 0 then (if (inR t 0 3 && inR k 1 99) = true then fndS (snF (mvF (spotsOf 0 ps)) (spotsOf 0 ps)) t k else none) else none
def deQ (ps : List (List Int)) (t k : Int) : Int := (findR ps t k).q
def deE (ps : List (List Int)) (t k : Int) : List (Int × List Int) := ((deZ ps t k).map fun z => (delR ps z).1).getD []
def deP (ps : List (List Int)) (t k : Int) : List (List Int) := ((deZ ps t k).map fun z => (delR ps z).2).getD []

theorem view_zero {ps : List (List Int)} (h : viewQ ps = 0) : ps.length ≤ 12 ∧ allQ ps = 0 ∧ pagesQ ps = 0 ∧ noneB (mvF (spotsOf 0 ps)) (spotsOf 0 ps) = false := by
  obtain ⟨h1, h2, _⟩ := viewQ_nodup h
  have h12 : ps.length ≤ 12 := by
    unfold allQ at h1
    split at h1
    · simp at h1
    · omega
  have hq : pagesQ ps = 0 := by
    unfold allQ at h1
    rw [if_neg (by omega)] at h1
    exact h1
  have h3 := stQ_zero h2
  rw [allL_spots h1] at h3
  exact ⟨h12, h1, hq, h3⟩

theorem deZ_none {ps : List (List Int)} {t k : Int} (h : deZ ps t k = none) : deE ps t k = [] ∧ deP ps t k = [] := by unfold deE deP; rw [h]; exact ⟨rfl, rfl⟩
theorem deZ_some {ps : List (List Int)} {t k : Int} {z : Spt} (h : deZ ps t k = some z) : deE ps t k = (delR ps z).1 ∧ deP ps t k = (delR ps z).2 := by unfold deE deP; rw [h]; exact ⟨rfl, rfl⟩

theorem deZ_at {ps : List (List Int)} (hp : PgOk ps) {t k : Int} {z : Spt} (h : deZ ps t k = some z) : viewQ ps = 0 ∧ (inR t 0 3 && inR k 1 99) = true ∧ fndS (snF (mvF (spotsOf 0 ps)) (spotsOf 0 ps)) t k = some z ∧ ∃ pn sn zs, FndAt ps z pn sn zs := by
  unfold deZ at h
  split at h
  · rename_i hv
    split at h
    · rename_i hi
      obtain ⟨h1, _, h2, h3⟩ := view_zero hv
      exact ⟨hv, hi, h, found_at hp h1 h2 h3 h⟩
    · cases h
  · cases h
/-- The program's FindRow tells the same. -/
theorem find_deZ {ps : List (List Int)} (hp : PgOk ps) (t k : Int) : (∃ z, deZ ps t k = some z ∧ findR ps t k = toPl z ∧ deQ ps t k = 0) ∨ (deZ ps t k = none ∧ ∃ q, findR ps t k = rp q ∧ q ≠ 0 ∧ deQ ps t k = q) := by
  unfold deQ deZ findR
  by_cases hv : viewQ ps = 0
  · rw [if_pos hv, if_pos hv]
    by_cases hi : (inR t 0 3 && inR k 1 99) = true
    · rw [if_pos hi, if_pos hi]
      have e := fnd_fndS hp t k
      rw [allL_spots (view_zero hv).2.1] at e
      cases hf : fndS (snF (mvF (spotsOf 0 ps)) (spotsOf 0 ps)) t k with
      | none => rw [hf] at e; rw [e]; exact .inr ⟨rfl, 4, rfl, by decide, rfl⟩
      | some z => rw [hf] at e; rw [e]; exact .inl ⟨z, rfl, rfl, rfl⟩
    · rw [if_neg hi, if_neg hi]
      exact .inr ⟨rfl, 3, rfl, by decide, rfl⟩
  · rw [if_neg hv, if_neg hv]
    exact .inr ⟨rfl, viewQ ps, rfl, hv, rfl⟩

end Go.Proofs.Ytlggefcaiojemaa

/-
  The model's l7Drop.
-/
namespace Go.Proofs.Ytlggefcaiojemaa
open Go.RowKit
set_option linter.unusedVariables false

theorem dropE_pg : ∀ (k : Nat) (zs : List Int), IsPg zs → IsPg (dropE k zs) ∧ ∀ i, i ≠ 0 → nb (dropE k zs) i = nb zs i
  | 0, zs, h => ⟨h, fun _ _ => rfl⟩
  | k + 1, zs, h => by
    unfold dropE
    split
    · rename_i he
      have h0 := endB_pos he
      obtain ⟨h1, h2⟩ := dropE_pg k (lessP zs) (isPg_less h h0)
      exact ⟨h1, fun i hi => (h2 i hi).trans (nb_less_other i hi)⟩
    · exact ⟨h, fun _ _ => rfl⟩
theorem isPg_drpP {zs : List Int} (h : IsPg zs) (s : Nat) : IsPg (drpP zs s) := (dropE_pg _ _ (isPg_span h s 0 0 (by omega) (by omega))).1
theorem drpP_ne {zs : List Int} (h : Fine zs) {s : Nat} (hh : hasC zs s = true) (hs : s < 16) : zs ≠ drpP zs s := fun e => by
  have h1 : nb (drpP zs s) (3 + 2 * s) = nb (spanSet zs s 0 0) (3 + 2 * s) := (dropE_pg _ _ (isPg_span h.pg s 0 0 (by omega) (by omega))).2 _ (by omega)
  have hl := h.pg.len
  have h2 : nb (spanSet zs s 0 0) (3 + 2 * s) = 0 := by
    unfold spanSet nb byt
    simp [List.getD, hl, show 3 + 2 * s < 64 by omega]
  rw [← e, h2] at h1
  unfold hasC inR at hh
  simp only [Bool.and_eq_true, decide_eq_true_eq, Bool.not_eq_true', Int.toNat_natCast] at hh
  have hs0 : s < nb zs 0 := by omega
  have h3 := (evenP_fine h s hs0).2 h1
  have h4 := hh.2
  unfold empB at h4
  simp [h1, h3] at h4

set_option maxRecDepth 20000 in
set_option maxHeartbeats 2000000 in
theorem l7Drop_any (n₀ : Nat) (X : World) (ob : Nat) (es : List (Int × List Int)) (cur : List (List Int)) (x1 : Option Addr) (k1 : Nat) (V1 : List Value) (x2 : Option Addr) (k2 : Nat) (V2 : List Value) (pn s : Nat) (old : List Int) (w : World) (hS : HpS n₀ X ob es cur x1 k1 V1 x2 k2 V2 w) (hp : cur[pn]? = some old) (hF : Fine old) (hh : hasC old s = true) (hs : s < 16) (hc12 : cur.length ≤ 12) (hel : es.length ≤ 1000) :
    Calls Try.prog 49 #[.pointer (some ⟨ob, 0, none⟩), .int .i64 pn, .int .i64 s] w fun e w' => TuPost n₀ X ob (es ++ [((pn : Int), drpP old s)]) (cur.set pn (drpP old s)) e w' := by
  have hpl : pn < cur.length := (List.getElem?_eq_some_iff.1 hp).1
  obtain ⟨gp, hx2⟩ : ∃ gp, x2 = some ⟨gp, 0, none⟩ := by
    rcases hS.a.p.row.2 with ⟨_, h0⟩ | ⟨gp, cap, cu, e, _⟩
    · omega
    · cases e; exact ⟨gp, rfl⟩
  subst hx2
  obtain ⟨y0, hy0⟩ : ∃ y, V2[pn]? = some y := ⟨_, List.getElem?_eq_getElem (by rw [hS.a.p.len]; omega)⟩
  have hyb := hS.a.p.by' pn y0 old hy0 hp
  obtain ⟨ay, cy, fy, hye, hby, _⟩ := Gb.one hyb
  have c8 := hS.a.p.row.cellAt pn (by omega)
  rw [hy0, hye, hF.pg.len] at c8
  have hmd := l2Drop_all ay old cy s w hby.reads hF hs
  obtain ⟨o0, o1, _, _⟩ := hS.o
  have hpi : (pn : Int) < (cur.length : Int) := by omega
  have HS : Hid (HpS n₀ X ob es cur x1 k1 V1 (some ⟨gp, 0, none⟩) k2 V2 w) := hS
  clear hS hyb hby hye hy0
  go_enter Try.func49, Try.ntmps49
  go_wp2_with (go_at_call 67; refine hmd.mono ?_)
  rintro e w1 ⟨g, dd, rfl, g1, hu⟩
  have hS := HS.out
  have hfr : ∀ q, (Value.slice (some ⟨g, 0, none⟩) 64 dd).ownBlock = some q → ¬ blkP (.slice x1 es.length k1) V1 q ∧ ¬ blkP (.slice (some ⟨gp, 0, none⟩) cur.length k2) V2 q ∧ q ≠ ob := fun q e => by
    have h1 := (Gb.lt hu q e).1
    have hol := hS.o.lt
    exact ⟨fun hh => by have := (hS.a.e.lt hh).2; omega, fun hh => by have := (hS.a.p.lt hh).2; omega, fun hh => by omega⟩
  have hz := isPg_drpP hF.pg s
  have hcon := l7Turn_old n₀ X ob es cur x1 k1 V1 (some ⟨gp, 0, none⟩) k2 V2 pn (some ⟨g, 0, none⟩) dd (drpP old s) old w1 (hS.below g1) hp hF.pg.bd hz.bd (drpP_ne hF hh hs) hz.len hc12 hel (hu.base hS.sz) hfr
  clear hu hS hfr hz hmd o0 o1 c8
  go_wp2_with (go_at_call 66; refine hcon.mono ?_)
  rintro e w2 ⟨rfl, hR⟩
  have HR : Hid _ := hR
  clear hR hcon
  go_wp2_with fail
  go_end0
  exact ⟨rfl, HR.out⟩

end Go.Proofs.Ytlggefcaiojemaa
