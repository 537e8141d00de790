/-
  How much a record takes, from whatever was left; records that came in.
-/
import Derived.Test.YteebbaleejbodaaARRunM
import Derived.Test.YteebbaleejbodaaAREres
import Derived.Test.YteebbaleejbodaaARMae
import Derived.Test.YteebbaleejbodaaARMsp

namespace Go.Proofs.Yteebbaleejbodaa
open Go.RowKit
set_option linter.unusedVariables false

set_option maxHeartbeats 400000 in
theorem szRunS_gen (a : Option Addr) (n c : Nat) (P : Nat → Int) (A : Nat → Option Addr) (C : Nat → Nat) (Z : Nat → List Int) (k : Int) (w : World) (hk0 : 0 ≤ k) (hk1 : k ≤ 1048576) (hm : n ≤ 9223372036854775807) (hz : ∀ i, i < n → (Z i).length ≤ 9223372036854775807) (hr : RunsRead w a n P A C Z) :
    Calls Try.prog 74 #[.slice a n c, .int .i64 k] w fun e w' => (∃ r : Int, e = .returned (.int .i64 r) ∧ (r = -1 ∨ (0 ≤ r ∧ r = k - n - took Z n))) ∧ Below w.heap.size w w' := by
  by_cases h : k < n
  · have d : (k - (n : Int) < 0) := by omega
    go_enter Try.func74, Try.ntmps74
    go_wp2_with fail
    go_ret
    exact ⟨⟨-1, rfl, .inl rfl⟩, Below.refl _ _⟩
  · have d : ¬ (k - (n : Int) < 0) := by omega
    by_cases h0 : n = 0
    · subst h0
      go_enter Try.func74, Try.ntmps74
      go_wp2_with fail
      go_rounds 1
      go_ret
      exact ⟨⟨k, by simp, .inr ⟨hk0, by simp [took]⟩⟩, Below.refl _ _⟩
    rcases hr with hr | ⟨b, off, rfl, hc⟩
    · exact absurd hr h0
    have hb0 : b < w.heap.size := World.block_lt_of_cell? w _ (hc 0 (by omega)).1
    go_enter Try.func74, Try.ntmps74
    go_wp2_with fail
    go_loopw [5, 1] (fun i l wr => ∃ j : Nat, j ≤ n ∧ i = .int .i64 j ∧ l = .int .i64 (k - n - took Z j) ∧ n + took Z j ≤ k ∧ Below w.heap.size w wr) (fun i _ _ => n - (intOf i).toNat)
    case atStart => exact ⟨0, Nat.zero_le _, rfl, by simp [took], by simp [took]; omega, Below.refl _ _⟩
    case round =>
      obtain ⟨j, hj, rfl, rfl, hl, g⟩ := hrel
      by_cases hlt : j < n
      · obtain ⟨e0, e1, _⟩ := hc j hlt
        have e0 := (g.cell (p := ⟨b, off + j * 2, none⟩) hb0).trans e0
        have e1 := (g.cell (p := ⟨b, off + j * 2 + 1, none⟩) hb0).trans e1
        have hjn : (j : Int) < (n : Int) := by omega
        clear hc
        have hq : Hid (∀ r, r = szQ (k - n - took Z j) (Z j).length → r = -1 ∨ (0 ≤ r ∧ r = k - n - took Z (j + 1))) := by
          intro r hr
          rw [hr]
          unfold szQ
          simp only [took]
          split <;> omega
        go_wp2_with fail
        refine (szRun_any (P j) (A j) (Z j).length (C j) _ _ (hz j hlt) (by omega) (by omega)).mono ?_
        rintro e w' ⟨rfl, g'⟩
        have g : Below w.heap.size w w' := g.trans (g'.mono g.size)
        clear g' e0 e1
        obtain ⟨r, hr⟩ : ∃ r, r = szQ (k - n - took Z j) (Z j).length := ⟨_, rfl⟩
        have hr1 := hq.out r hr
        rw [← hr]
        clear hr hq
        rcases hr1 with rfl | ⟨hr0, hr1⟩
        · go_wp2_with fail
          go_ret
          exact ⟨⟨-1, rfl, .inl rfl⟩, g⟩
        · have HR : Hid (r = k - n - took Z (j + 1)) := hr1
          have hl' : n + took Z (j + 1) ≤ k := by omega
          have dr : ¬ (r < 0) := by omega
          clear hr1
          go_wp2_with fail
          go_roundw
          case rel => exact ⟨j + 1, by omega, by go_num, by rw [← HR.out], hl', g⟩
          case measure => simp [intOf]; omega
      · have e : j = n := by omega
        subst e
        go_wp2_with fail
        go_ret
        exact ⟨⟨_, rfl, .inr ⟨by omega, rfl⟩⟩, g⟩

set_option maxHeartbeats 400000 in
theorem szRecord_gen (k tx pg : Int) (a : Option Addr) (n c : Nat) (P : Nat → Int) (A : Nat → Option Addr) (C : Nat → Nat) (Z : Nat → List Int) (kl : Int) (w : World) (hk0 : 0 ≤ kl) (hk1 : kl ≤ 1048576) (hm : n ≤ 9223372036854775807) (hz : ∀ i, i < n → (Z i).length ≤ 9223372036854775807) (hr : RunsRead w a n P A C Z) :
    Calls Try.prog 31 #[.agg #[.int .i64 k, .int .i64 tx, .int .i64 pg, .slice a n c], .int .i64 kl] w fun e w' => (∃ r : Int, e = .returned (.int .i64 r) ∧ (r = -1 ∨ (0 ≤ r ∧ r = kl - n - took Z n))) ∧ Below w.heap.size w w' := by
  have HR : Hid (RunsRead w a n P A C Z) := hr
  have HZ : Hid (∀ i, i < n → (Z i).length ≤ 9223372036854775807) := hz
  clear hr hz
  go_enter Try.func31, Try.ntmps31
  go_wp2_with fail
  refine (szRunS_gen a n c P A C Z kl _ hk0 hk1 hm HZ.out (HR.out.below (by go_grown) (Nat.le_refl _))).mono ?_
  rintro e w' ⟨⟨r, rfl, hl⟩, hb⟩
  have g : Below w.heap.size w w' := Below.trans (by go_grown) (hb.mono (by simp))
  clear hb
  rcases hl with hl | ⟨h0, hl⟩
  · subst hl
    go_wp2_with fail
    go_ret
    exact ⟨⟨-1, rfl, .inl rfl⟩, g⟩
  · have h1 : ¬ (r < 0) := by omega
    have HL : Hid (r = kl - n - took Z n) := hl
    clear hl
    go_wp2_with fail
    go_ret
    exact ⟨⟨r, rfl, .inr ⟨h0, HL.out⟩⟩, g⟩

end Go.Proofs.Yteebbaleejbodaa

/-
  The answers of edits: what they own, compared, marked and looked through.
-/
namespace Go.Proofs.Yteebbaleejbodaa
open Go.RowKit
set_option linter.unusedVariables false

/-- Edits and pages in blocks of their own, from lo up to hi. -/
def EdH (lo hi : Nat) (w : World) (a : Option Addr) (es : List (Int × List Int)) (b : Option Addr) (ps : List (List Int)) : Prop :=
  ∃ S1 S2 : Nat → Prop, HasE S1 w a es ∧ HasQ S2 w b ps ∧ (∀ k, S1 k → lo ≤ k ∧ k < hi) ∧ (∀ k, S2 k → lo ≤ k ∧ k < hi) ∧ ∀ k, S1 k → ¬ S2 k
/-- The same, marked. -/
def EdM (lo hi : Nat) (w : World) (a : Option Addr) (es : List (Int × List Int)) (b : Option Addr) (ps : List (List Int)) : Prop :=
  ∃ S1 S2 : Nat → Prop, MarkE S1 w a es 1 ∧ MarkQ S2 w b ps (endE es 1) ∧ (∀ k, S1 k → lo ≤ k ∧ k < hi) ∧ (∀ k, S2 k → lo ≤ k ∧ k < hi)
section
variable {lo hi : Nat} {w w' : World} {a b : Option Addr} {es : List (Int × List Int)} {ps : List (List Int)}
theorem EdH.below (h : EdH lo hi w a es b ps) (hb : Below w.heap.size w w') : EdH lo hi w' a es b ps := by
  obtain ⟨S1, S2, h1, h2, r⟩ := h
  exact ⟨S1, S2, h1.below hb, h2.below hb, r⟩
theorem EdM.below (h : EdM lo hi w a es b ps) (hb : Below w.heap.size w w') : EdM lo hi w' a es b ps := by
  obtain ⟨S1, S2, h1, h2, r⟩ := h
  exact ⟨S1, S2, h1.below hb, h2.below hb, r⟩
theorem EdH.turned (h : EdH lo hi w a es b ps) {x y : Nat} (ht : Turned x y w w') (hn : hi ≤ x ∨ y ≤ lo) : EdH lo hi w' a es b ps := by
  obtain ⟨S1, S2, h1, h2, l1, l2, d⟩ := h
  have t := TurnS.of (S := fun k => x ≤ k ∧ k < y) ht (fun k h1 h2 => ⟨h1, h2⟩)
  exact ⟨S1, S2, h1.turned t (fun k hk e => by have := l1 k hk; omega), h2.turned t (fun k hk e => by have := l2 k hk; omega), l1, l2, d⟩
end

theorem AePost.form {q : Int} {es : List (Int × List Int)} {ps : List (List Int)} {w w' : World} {e : Ending} (h : AePost q es ps w e w') : ∃ a c b d, e = .returned (.agg #[.int .i64 q, .slice a es.length c, .slice b ps.length d]) ∧ Below w.heap.size w w' ∧ EdH w.heap.size w'.heap.size w' a es b ps := by
  obtain ⟨v1, V1, v2, V2, rfl, g, hA⟩ := h
  obtain ⟨a, c, e1, o1⟩ := hA.e.own hA.s1
  obtain ⟨b, d, e2, o2⟩ := hA.p.own hA.s2
  refine ⟨a, c, b, d, by rw [e1, e2], g, blkP v1 V1, blkP v2 V2, ?_, ?_, fun k hk => hA.e.lt hk, fun k hk => hA.p.lt hk, hA.d⟩
  · rcases o1 with o1 | ⟨g1, A, C, F, e3, o1⟩
    · exact .inl o1
    · exact .inr ⟨g1, A, C, F, e3, o1⟩
  · rcases o2 with o2 | ⟨g1, A, C, F, e3, o2⟩
    · exact .inl o2
    · exact .inr ⟨g1, A, C, F, e3, o2⟩

theorem eqEd_same (q : Int) (a b x y : Option Addr) (n m c d c' d' : Nat) (es : List (Int × List Int)) (ps : List (List Int)) (lo hi lo' hi' : Nat) (w : World) (hn : es.length = n) (hp : ps.length = m) (hm : bigE es ≤ 2000000) (hm' : bigQ ps ≤ 13000000) (h : EdH lo hi w a es b ps) (h' : EdH lo' hi' w x es y ps) :
    Calls Try.prog 35 #[.agg #[.int .i64 q, .slice a n c, .slice b m d], .agg #[.int .i64 q, .slice x n c', .slice y m d']] w fun e w' => e = .returned (.bool true) ∧ Below w.heap.size w w' := by
  obtain ⟨S1, S2, h1, h2, _⟩ := h
  obtain ⟨S3, S4, h3, h4, _⟩ := h'
  exact eqEditsResult_same q S1 S2 S3 S4 a b x y n m c d c' d' es ps w hn hp (by omega) hm' h1 h2 h3 h4
theorem markEd_any (q : Int) (a b : Option Addr) (n m c d : Nat) (es : List (Int × List Int)) (ps : List (List Int)) (lo hi : Nat) (w : World) (hn : es.length = n) (hp : ps.length = m) (hm : bigE es ≤ 2000000) (hm' : bigQ ps ≤ 13000000) (h : EdH lo hi w a es b ps) (hh : hi ≤ w.heap.size) :
    Calls Try.prog 38 #[.agg #[.int .i64 q, .slice a n c, .slice b m d], .int .i64 1] w fun e w' => e = .returned (.int .i64 (endQ ps (endE es 1))) ∧ Turned lo hi w w' ∧ EdM lo hi w' a es b ps := by
  obtain ⟨S1, S2, h1, h2, l1, l2, d0⟩ := h
  refine (markEditsResult_any q S1 S2 a b n m c d es ps w hn hp hm hm' h1 h2 d0 (fun k hk => Nat.lt_of_lt_of_le (l1 k hk).2 hh) (fun k hk => Nat.lt_of_lt_of_le (l2 k hk).2 hh)).mono ?_
  rintro e w' ⟨rfl, t, m1, m2⟩
  refine ⟨rfl, ⟨t.os, t.tape, t.output, t.size, fun k hk hn => t.block k hk (fun hs => ?_)⟩, S1, S2, m1, m2, l1, l2⟩
  rcases hs with hs | hs
  · exact hn (l1 k hs)
  · exact hn (l2 k hs)
theorem heldEd_any (q : Int) (a b : Option Addr) (n m c d : Nat) (es : List (Int × List Int)) (ps : List (List Int)) (lo hi : Nat) (w : World) (hn : es.length = n) (hp : ps.length = m) (hm : bigE es ≤ 2000000) (hm' : bigQ ps ≤ 13000000) (h : EdM lo hi w a es b ps) :
    Calls Try.prog 39 #[.agg #[.int .i64 q, .slice a n c, .slice b m d], .int .i64 1] w fun e w' => e = .returned (.int .i64 (endQ ps (endE es 1))) ∧ Below w.heap.size w w' := by
  obtain ⟨S1, S2, h1, h2, _⟩ := h
  exact heldEditsResult_any q S1 S2 a b n m c d es ps w hn hp hm hm' h1 h2
theorem endQE_pos (es : List (Int × List Int)) (ps : List (List Int)) (hm : bigE es ≤ 2000000) : 0 ≤ endQ ps (endE es 1) := endQ_pos ps (endE_le es (k := 1) hm (by omega) (by omega)).1

/-- Three cells of an answer that is kept. -/
structure RsE (w : World) (b : Nat) (q : Int) (a1 : Option Addr) (n1 c1 : Nat) (a2 : Option Addr) (n2 c2 : Nat) : Prop where
  c0 : w.cell? ⟨b, 0, none⟩ = some (.int .i64 q)
  c1 : w.cell? ⟨b, 1, none⟩ = some (.slice a1 n1 c1)
  c2 : w.cell? ⟨b, 2, none⟩ = some (.slice a2 n2 c2)
section
variable {w w' : World} {b : Nat} {q : Int} {a1 a2 : Option Addr} {n1 d1 n2 d2 : Nat}
theorem RsE.lt (h : RsE w b q a1 n1 d1 a2 n2 d2) : b < w.heap.size := World.block_lt_of_cell? w _ h.c0
theorem RsE.turned (h : RsE w b q a1 n1 d1 a2 n2 d2) {lo hi : Nat} (ht : Turned lo hi w w') (hn : b < lo ∨ hi ≤ b) : RsE w' b q a1 n1 d1 a2 n2 d2 := ⟨ht.cell (p := ⟨b, 0, none⟩) h.c0 hn, ht.cell (p := ⟨b, 1, none⟩) h.c1 hn, ht.cell (p := ⟨b, 2, none⟩) h.c2 hn⟩
theorem RsE.below (h : RsE w b q a1 n1 d1 a2 n2 d2) (hb : Below w.heap.size w w') : RsE w' b q a1 n1 d1 a2 n2 d2 := h.turned (Turned.ofBelow (lo := 0) (hi := 0) hb) (.inr (Nat.zero_le _))
end

/-- How much there is at most. -/
theorem took_le (Z : Nat → List Int) (m : Nat) : ∀ n, (∀ i, i < n → (Z i).length ≤ m) → took Z n ≤ m * n
  | 0, _ => by simp [took]
  | n + 1, h => by
    have h1 := took_le Z m n (fun i hi => h i (by omega))
    have h2 := h n (by omega)
    simp only [took]
    rw [Nat.mul_succ]
    omega
theorem bigE_le {es : List (Int × List Int)} (h : ∀ e ∈ es, e.2.length ≤ 64) (hl : es.length ≤ 1000) : bigE es ≤ 2000000 := by
  have h1 := took_le (eZ es) 64 es.length (fun i hi => by
    unfold eZ
    rw [List.getD_eq_getElem?_getD, List.getElem?_eq_getElem hi, Option.getD_some]
    exact h _ (List.getElem_mem hi))
  unfold bigE
  omega
theorem bigQ_le {ps : List (List Int)} (h : ∀ zs ∈ ps, zs.length ≤ 64) (hl : ps.length ≤ 1000) : bigQ ps ≤ 13000000 := by
  have h1 := took_le (pZ ps) 64 ps.length (fun i hi => by
    unfold pZ
    rw [List.getD_eq_getElem?_getD, List.getElem?_eq_getElem hi, Option.getD_some]
    exact h _ (List.getElem_mem hi))
  unfold bigQ
  omega

end Go.Proofs.Yteebbaleejbodaa

/-
  The model's l6Cell, of right pages; what it tells of moved cells.
-/
namespace Go.Proofs.Yteebbaleejbodaa
open Go.RowKit Go.Maps
set_option linter.unusedVariables false

/-- The cell of a page and slot. -/
def lkC (ps : List (List Int)) (p s : Int) : Option Cel :=
  if inR p 0 ((ps.length : Int) - 1) = true then (match ps[p.toNat]? with | some zs => if hasC zs s = true then some (unp (cellOf zs s.toNat)) else none | none => none) else none
def zC : Cel := ⟨0, 0, 0, 0, 0, 0, 0, ⟨#[]⟩⟩

theorem hasC_slot {zs : List Int} {x : Int} (h : hasC zs x = true) : ∃ s : Nat, x = (s : Int) ∧ s < nb zs 0 ∧ empB zs s = false := by
  unfold hasC inR at h
  simp at h
  exact ⟨x.toNat, by omega, by omega, h.2⟩
theorem hasC_of {zs : List Int} {s : Nat} (h1 : s < nb zs 0) (h2 : empB zs s = false) : hasC zs (s : Int) = true := by
  unfold hasC inR
  simp [h2]
  omega

set_option maxRecDepth 20000 in
set_option maxHeartbeats 4000000 in
theorem l6Cell_any (a : Option Addr) (ps : List (List Int)) (n c : Nat) (p s : Int) (w : World) (hn : ps.length = n) (hm : n ≤ 12) (hp : PgOk ps) (hr : PgRead w a ps) (hq : pagesQ ps = 0) (hps : small p) (hss : small s) :
    Calls Try.prog 159 #[.slice a n c, .int .i64 p, .int .i64 s] w fun e w' => e = .returned (.tuple #[celV ((lkC ps p s).getD zC), .bool (lkC ps p s).isSome]) ∧ Below w.heap.size w w' := by
  have hQ := pagesQ_zero hq
  have hX : CelOwn (w.alloc (.cells #[.int .i64 0, .int .i64 0, .int .i64 0, .int .i64 0, .int .i64 0, .int .i64 0, .int .i64 0, .string ⟨#[]⟩] 169)) w.heap.size := ⟨by simp [go_sem], by simp [go_sem], by simp [go_sem], by simp [go_sem], by simp [go_sem], by simp [go_sem], by simp [go_sem], by simp [go_sem], by simp [go_sem], by simp [go_sem], by simp [go_sem], by simp [go_sem], by simp [go_sem], by simp [go_sem], by simp [go_sem], by simp [go_sem]⟩
  have gX : Below w.heap.size w (w.alloc (.cells #[.int .i64 0, .int .i64 0, .int .i64 0, .int .i64 0, .int .i64 0, .int .i64 0, .int .i64 0, .string ⟨#[]⟩] 169)) := by go_grown
  have hlt0 : w.heap.size < (w.alloc (.cells #[.int .i64 0, .int .i64 0, .int .i64 0, .int .i64 0, .int .i64 0, .int .i64 0, .int .i64 0, .string ⟨#[]⟩] 169)).heap.size := by simp
  obtain ⟨X, hX0⟩ : ∃ X, w.alloc (.cells #[.int .i64 0, .int .i64 0, .int .i64 0, .int .i64 0, .int .i64 0, .int .i64 0, .int .i64 0, .string ⟨#[]⟩] 169) = X := ⟨_, rfl⟩
  rw [hX0] at hX gX hlt0
  have hr := hr.below gX (Nat.le_refl _)
  obtain ⟨p0, p1⟩ := hps
  have HZE : Hid (∀ v, v = none → lkC ps p s = v → celV ((lkC ps p s).getD zC) = .agg #[.int .i64 0, .int .i64 0, .int .i64 0, .int .i64 0, .int .i64 0, .int .i64 0, .int .i64 0, .string ⟨#[]⟩] ∧ (lkC ps p s).isSome = false) := fun v hv h => by rw [h, hv]; exact ⟨rfl, rfl⟩
  have hwn : IntKind.i64.wrap ((n : Int) - 1) = (n : Int) - 1 := by simp [IntKind.wrap, IntKind.bits, IntKind.signed]; omega
  cases hin : inR p 0 ((n : Int) - 1)
  · have HL : Hid (lkC ps p s = none) := by show _ = _; unfold lkC; rw [hn, hin]; rfl
    obtain ⟨HV1, HV2⟩ := HZE.out none rfl HL.out
    have HV1 : Hid (_) := HV1
    have HV2 : Hid (_) := HV2
    clear HZE hQ
    obtain ⟨c0, c1, c2, c3, c4, c5, c6, c7, f0, f1, f2, f3, f4, f5, f6, f7⟩ := hX
    go_enter Try.func159, Try.ntmps159
    go_wp2_with fail
    refine (l1In_any _ _ _ _).mono ?_
    rintro e w' ⟨rfl, hw'⟩
    subst w'
    rw [hin]
    go_wp2_with fail
    refine bodyPost_ret (v := .tuple #[.agg #[.int .i64 0, .int .i64 0, .int .i64 0, .int .i64 0, .int .i64 0, .int .i64 0, .int .i64 0, .string ⟨#[]⟩], .bool false]) (by simp [results, Try.results159, go_sem, *]) rfl ?_
    exact ⟨by rw [HV1.out, HV2.out], by go_grown⟩
  · have hin' := hin
    unfold inR at hin'
    simp at hin'
    obtain ⟨i, rfl⟩ : ∃ i : Nat, p = i := ⟨p.toNat, by omega⟩
    have hlt : i < n := by omega
    obtain ⟨zs, hzs⟩ := at_lt' (rs := ps) (i := i) (by omega)
    obtain ⟨b, off, x, cx, rfl, e0, hcx, hx⟩ := hr.page hzs
    have hzz := (hp zs (List.mem_of_getElem? hzs)).2
    have hRt := right_of hzz (hQ zs (List.mem_of_getElem? hzs))
    have HL : Hid (lkC ps i s = if hasC zs s = true then some (unp (cellOf zs s.toNat)) else none) := by
      show _ = _
      unfold lkC
      rw [hn, hin, if_pos rfl, Int.toNat_natCast, hzs]
    have hb0 : b < X.heap.size := World.block_lt_of_cell? X _ e0
    have HE : Hid (∀ W, Below X.heap.size X W → W.cell? ⟨b, off + i, none⟩ = some (.slice x 64 cx) ∧ Reads W x zs) := fun W hW => by
      rw [← hRt.f.pg.len]
      exact ⟨(hW.cell (p := ⟨b, _, none⟩) hb0).trans e0, hx.below hW (Nat.le_refl _)⟩
    rw [hRt.f.pg.len] at hcx
    have HF : Hid (Right zs) := hRt
    have HZ : Hid (∀ z ∈ zs, 0 ≤ z ∧ z ≤ 255) := hzz
    clear e0 hx hRt hzz hr hQ hp
    obtain ⟨e0, hx⟩ := HE.out _ (Below.refl _ _)
    have HX : Hid (Reads X x zs) := hx
    have hss' := small_wf hss
    have hii : (i : Int) < (n : Int) := by omega
    clear hx
    cases hh : hasC zs s
    · have HL2 : Hid (lkC ps i s = none) := by show _ = _; rw [HL.out, hh]; rfl
      obtain ⟨HV1, HV2⟩ := HZE.out none rfl HL2.out
      have HV1 : Hid (_) := HV1
      have HV2 : Hid (_) := HV2
      clear HZE
      obtain ⟨c0, c1, c2, c3, c4, c5, c6, c7, f0, f1, f2, f3, f4, f5, f6, f7⟩ := hX
      go_enter Try.func159, Try.ntmps159
      go_wp2_with fail
      refine (l1In_any _ _ _ _).mono ?_
      rintro e w' ⟨rfl, hw'⟩
      subst w'
      rw [hin]
      clear hin
      go_wp2_with fail
      refine (l2Has_any x zs cx s _ HX.out HF.out.f hss').mono ?_
      rintro e w' ⟨rfl, hw'⟩
      subst w'
      rw [hh]
      clear hh
      go_wp2_with fail
      refine bodyPost_ret (v := .tuple #[.agg #[.int .i64 0, .int .i64 0, .int .i64 0, .int .i64 0, .int .i64 0, .int .i64 0, .int .i64 0, .string ⟨#[]⟩], .bool false]) (by simp [results, Try.results159, go_sem, *]) rfl ?_
      exact ⟨by rw [HV1.out, HV2.out], by go_grown⟩
    · obtain ⟨k, rfl, hk, he⟩ := hasC_slot hh
      have hzc : ∀ z ∈ cellOf zs k, 0 ≤ z ∧ z ≤ 255 := fun z hz' => HZ.out z (List.mem_of_mem_drop (List.mem_of_mem_take hz'))
      have hclen := cellOf_length HF.out.f k hk
      have hq0 := HF.out.b k hk he
      have HCl : Hid (∀ W, Reads W x zs → Calls Try.prog 158 #[.slice x 64 cx, .int .i64 k] W fun e w' => ∃ a' d, e = .returned (.slice a' (nb zs (3 + 2 * k)) d) ∧ nb zs (3 + 2 * k) ≤ d ∧ Below W.heap.size W w' ∧ BytesIn W.heap.size w'.heap.size w' a' (cellOf zs k)) := fun W hW => l2CellC_any x zs cx k W hW HF.out.f hcx hk he
      obtain ⟨cq, cf, cp, cl, ct, ck, cv, cs, hu⟩ := celV_form (unp (cellOf zs k))
      have HRd : Hid (∀ W a' d, nb zs (3 + 2 * k) ≤ d → Reads W a' (cellOf zs k) → Calls Try.prog 157 #[.slice a' (nb zs (3 + 2 * k)) d] W fun e w' => e = .returned (.tuple #[.agg #[.int .i64 cq, .int .i64 cf, .int .i64 cp, .int .i64 cl, .int .i64 ct, .int .i64 ck, .int .i64 cv, .string cs], .bool true]) ∧ Below W.heap.size W w') := fun W a' d hd hW => by
        have := l1Read_any a' (cellOf zs k) _ d W hclen hd hW hzc
        rw [(read_unp hq0).1, (read_unp hq0).2, hu] at this
        exact this
      have HL2 : Hid (celV ((lkC ps i k).getD zC) = .agg #[.int .i64 cq, .int .i64 cf, .int .i64 cp, .int .i64 cl, .int .i64 ct, .int .i64 ck, .int .i64 cv, .string cs] ∧ (lkC ps i k).isSome = true) := by
        show _ ∧ _
        rw [HL.out, hh, if_pos rfl, Int.toNat_natCast, hu]
        exact ⟨rfl, rfl⟩
      generalize nb zs (3 + 2 * k) = l at HCl HRd
      clear HZE hzc hclen hq0 hu hk he
      go_enter Try.func159, Try.ntmps159
      go_wp2_with fail
      refine (l1In_any _ _ _ _).mono ?_
      rintro e w' ⟨rfl, hw'⟩
      subst w'
      rw [hin]
      clear hin
      go_wp2_with fail
      refine (l2Has_any x zs cx k _ HX.out HF.out.f hss').mono ?_
      rintro e w' ⟨rfl, hw'⟩
      subst w'
      rw [hh]
      clear hh
      go_wp2_with fail
      refine (HCl.out _ HX.out).mono ?_
      rintro e w2 ⟨a2, d2, rfl, hd2, g2, y2⟩
      have r2 := y2.reads
      have hX2 := hX.below g2 hlt0
      have g3 := gX.trans (g2.mono gX.size)
      have hlt2 := Nat.lt_of_lt_of_le hlt0 g2.size
      clear y2 g2 e0 hX
      go_wp2_with fail
      refine (HRd.out _ a2 d2 hd2 r2).mono ?_
      rintro e w3 ⟨rfl, g4⟩
      have hX3 := hX2.below g4 hlt2
      have g5 := g3.trans (g4.mono g3.size)
      have hgs5 := g5.size
      clear r2 g4 g3 hX2
      obtain ⟨c0, c1, c2, c3, c4, c5, c6, c7, f0, f1, f2, f3, f4, f5, f6, f7⟩ := hX3
      go_wp2_with fail
      refine bodyPost_ret (v := .tuple #[.agg #[.int .i64 cq, .int .i64 cf, .int .i64 cp, .int .i64 cl, .int .i64 ct, .int .i64 ck, .int .i64 cv, .string cs], .bool true]) (by simp [results, Try.results159, go_sem, *]) rfl ?_
      exact ⟨by rw [HL2.out.1, HL2.out.2], by go_grown⟩

/-- The places of cells. -/
theorem spotsOf_mem : ∀ (l : List (List Int)) (p : Nat) (x : Spt), PgOk l → (∀ zs ∈ l, pageC zs = 0) → (x ∈ spotsOf p l ↔ ∃ i zs s, l[i]? = some zs ∧ s < nb zs 0 ∧ empB zs s = false ∧ x = ⟨(p + i : Nat), (s : Nat), unp (cellOf zs s)⟩)
  | [], p, x, _, _ => by simp [spotsOf]
  | z :: l, p, x, hp, hq => by
    have ih := spotsOf_mem l (p + 1) x (fun y hy => hp y (by simp [hy])) (fun y hy => hq y (by simp [hy]))
    have hpc := hq z (by simp)
    simp only [spotsOf, List.mem_append, ih, pageL_right hpc]
    constructor
    · rintro (h | ⟨i, zs, s, h1, h2, h3, h4⟩)
      · obtain ⟨s, h1, h2, h3⟩ := cellsTo_mem _ _ _ _ h
        exact ⟨0, z, s, rfl, h1, h2, h3⟩
      · exact ⟨i + 1, zs, s, by simpa using h1, h2, h3, by rw [h4, show p + 1 + i = p + (i + 1) by omega]⟩
    · rintro ⟨i, zs, s, h1, h2, h3, h4⟩
      cases i with
      | zero =>
        simp at h1
        subst h1
        refine .inl ?_
        rw [h4]
        have : ∀ n, s < n → (⟨((p + 0 : Nat) : Int), (s : Int), unp (cellOf z s)⟩ : Spt) ∈ cellsTo p z n := by
          intro n
          induction n with
          | zero => intro h; omega
          | succ n ihn =>
            intro h
            simp only [cellsTo, List.mem_append]
            by_cases e : s = n
            · subst e; right; unfold oneC; rw [h3]; simp
            · left; exact ihn (by omega)
        exact this _ h2
      | succ i => exact .inr ⟨i, zs, s, by simpa using h1, h2, h3, by rw [h4, show p + 1 + i = p + (i + 1) by omega]⟩

theorem mvF_of_mem {xs : List Spt} (hd : ∀ x ∈ xs, ∀ y ∈ xs, x.p = y.p → x.s = y.s → x = y) {x : Spt} (hx : x ∈ xs) (h2 : x.c.f = 2) : mvF xs x.p x.s = some (rowV x) := by
  have key : ∀ (l : List Spt) (f : Int → Int → Option Value), (∀ y ∈ l, y.p = x.p → y.s = x.s → y = x) → (x ∈ l ∨ f x.p x.s = some (rowV x)) → (l.foldl mvS f) x.p x.s = some (rowV x) := by
    intro l
    induction l with
    | nil => intro f _ h; rcases h with h | h; simp at h; exact h
    | cons z l ih =>
      intro f hu h
      rw [List.foldl_cons]
      refine ih _ (fun y hy => hu y (by simp [hy])) ?_
      by_cases e : z.p = x.p ∧ z.s = x.s
      · have hz := hu z (by simp) e.1 e.2
        subst hz
        right
        unfold mvS upd
        rw [if_pos h2, if_pos ⟨rfl, rfl⟩]
      · rcases h with h | h
        · rcases List.mem_cons.1 h with rfl | h
          · exact absurd ⟨rfl, rfl⟩ e
          · exact .inl h
        · right
          unfold mvS upd
          split
          · show (if x.p = z.p ∧ x.s = z.s then some (rowV z) else f x.p x.s) = _
            rw [if_neg (fun h => e ⟨h.1.symm, h.2.symm⟩)]; exact h
          · exact h
  exact key xs _ (fun y hy h1 h2 => hd y hy x hx h1 h2) (.inl hx)

/-- What l6Cell tells of moved cells is what the map tells. -/
theorem lkC_mv {ps : List (List Int)} (hp : PgOk ps) (hq : pagesQ ps = 0) (p s : Int) :
    mvF (spotsOf 0 ps) p s = (match lkC ps p s with | some c => if c.f = 2 then some (.agg #[.int .i64 c.t, .int .i64 c.k, .int .i64 c.v, .string c.s]) else none | none => none) := by
  have hQ := pagesQ_zero hq
  have hm := fun x => spotsOf_mem ps 0 x hp hQ
  have hd : ∀ x ∈ spotsOf 0 ps, ∀ y ∈ spotsOf 0 ps, x.p = y.p → x.s = y.s → x = y := by
    intro x hx y hy h1 h2
    obtain ⟨i, zs, k, a1, a2, a3, rfl⟩ := (hm x).1 hx
    obtain ⟨i', zs', k', b1, b2, b3, rfl⟩ := (hm y).1 hy
    simp only at h1 h2
    have e1 : i = i' := by omega
    have e2 : k = k' := by omega
    subst e1 e2
    rw [a1] at b1
    cases b1
    rfl
  have fwd : ∀ c, lkC ps p s = some c → (⟨p, s, c⟩ : Spt) ∈ spotsOf 0 ps := by
    intro c h
    unfold lkC at h
    split at h
    · rename_i hin
      unfold inR at hin
      simp at hin
      split at h
      · rename_i zs hzs
        split at h
        · rename_i hh
          obtain ⟨k, rfl, h1, h2⟩ := hasC_slot hh
          simp at h
          refine (hm _).2 ⟨p.toNat, zs, k, hzs, h1, h2, ?_⟩
          rw [← h, Nat.zero_add]
          have : ((p.toNat : Nat) : Int) = p := by omega
          rw [this]
        · cases h
      · cases h
    · cases h
  cases hl : lkC ps p s with
  | some c =>
    simp only
    have hx := fwd c hl
    by_cases h2 : c.f = 2
    · rw [if_pos h2]; exact mvF_of_mem hd hx h2
    · rw [if_neg h2]
      cases hv : mvF (spotsOf 0 ps) p s with
      | none => rfl
      | some v =>
        obtain ⟨y, hy, hy2, hy3, hy4, _⟩ := mvF_at _ _ _ _ hv
        have := hd y hy _ hx hy3 hy4
        rw [this] at hy2
        exact absurd hy2 h2
  | none =>
    simp only
    cases hv : mvF (spotsOf 0 ps) p s with
    | none => rfl
    | some v =>
      obtain ⟨y, hy, hy2, hy3, hy4, _⟩ := mvF_at _ _ _ _ hv
      obtain ⟨i, zs, k, a1, a2, a3, rfl⟩ := (hm y).1 hy
      simp only [Nat.zero_add] at hy3 hy4
      subst hy3 hy4
      have hi : i < ps.length := (List.getElem?_eq_some_iff.1 a1).1
      have : lkC ps (i : Int) (k : Int) = some (unp (cellOf zs k)) := by
        unfold lkC
        rw [if_pos (by unfold inR; simp; omega), Int.toNat_natCast, a1]
        simp only
        rw [if_pos (hasC_of a2 a3), Int.toNat_natCast]
      rw [this] at hl
      cases hl

end Go.Proofs.Yteebbaleejbodaa
