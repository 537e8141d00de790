/-
  What DeleteEdits answers is not too much.
-/
import Derived.Test.YtlggefcaiojemaaQIde
import Derived.Test.YtlggefcaiojemaaQMdf
import Derived.Test.YtlggefcaiojemaaQPgs
import Derived.Test.YtlggefcaiojemaaQMfa
import Derived.Deep.SlicePairs
import Derived.OpenShut
import Derived.ProofKit

namespace Go.Proofs.Ytlggefcaiojemaa
open Go.RowKit
set_option linter.unusedVariables false

theorem view_pages {ps : List (List Int)} (hp : PgOk ps) (h : viewQ ps = 0) : ps.length ≤ 12 ∧ ∀ zs ∈ ps, Fine zs := by
  obtain ⟨h1, _, h2, _⟩ := view_zero h
  exact ⟨h1, fun zs hz => fine_of (hp zs hz).2 (pageC_fine (pagesQ_zero h2 zs hz)).1⟩
theorem set_len {ps : List (List Int)} (h : ∀ zs ∈ ps, zs.length ≤ 64) {i : Nat} {ys : List Int} (hy : ys.length ≤ 64) : ∀ zs ∈ ps.set i ys, zs.length ≤ 64 := fun zs hz => by
  rcases List.mem_or_eq_of_mem_set hz with h1 | rfl
  · exact h zs h1
  · exact hy
theorem de_big {ps : List (List Int)} (hp : PgOk ps) (t k : Int) : bigE (deE ps t k) ≤ 2000000 ∧ bigQ (deP ps t k) ≤ 13000000 := by
  cases hz : deZ ps t k with
  | none =>
    obtain ⟨e1, e2⟩ := deZ_none hz
    rw [e1, e2]
    exact ⟨bigE_le (by simp) (by simp), bigQ_le (by simp) (by simp)⟩
  | some z =>
    obtain ⟨e1, e2⟩ := deZ_some hz
    obtain ⟨hv, _, _, pn, sn, zs, hZ⟩ := deZ_at hp hz
    obtain ⟨h12, hF⟩ := view_pages hp hv
    have hl : ∀ zs ∈ ps, zs.length ≤ 64 := fun zs hz => Nat.le_of_eq (hF zs hz).pg.len
    have d1 := (isPg_drpP hZ.c.ok.pg sn).len
    rw [e1, e2]
    obtain ⟨pm, sm, _, hc⟩ := hZ.home
    rcases hc with ⟨_, _, hd⟩ | ⟨_, ys, hcy, hd⟩
    · rw [hd]
      refine ⟨bigE_le ?_ (by simp), bigQ_le (set_len hl (Nat.le_of_eq d1)) (by rw [List.length_set]; omega)⟩
      intro e he
      simp at he
      rw [he]
      exact Nat.le_of_eq d1
    · have d2 := (isPg_drpP hcy.ok.pg sm).len
      rw [hd]
      refine ⟨bigE_le ?_ (by simp), bigQ_le (set_len (set_len hl (Nat.le_of_eq d1)) (Nat.le_of_eq d2)) (by rw [List.length_set, List.length_set]; omega)⟩
      intro e he
      simp at he
      rcases he with he | he
      · rw [he]; exact Nat.le_of_eq d1
      · rw [he]; exact Nat.le_of_eq d2
theorem PartP.readsN {w : World} {g n : Nat} {ps : List (List Int)} {F : Nat → Nat} (h : PartP w g n n ps F) (hn : ps.length = n) : PgRdN w (some ⟨g, 0, none⟩) ps := by
  refine .inr ⟨g, 0, rfl, fun i zs hz => ?_⟩
  have hi : i < n := by rw [← hn]; exact (List.getElem?_eq_some_iff.1 hz).1
  obtain ⟨h1, h2⟩ := h.c i zs hi hz
  exact ⟨_, _, by rw [Nat.zero_add]; exact h1, Nat.le_refl _, h2.reads⟩

end Go.Proofs.Ytlggefcaiojemaa

/-
  What came in, opened: pages. The law FnExactPagesFault answers true.
-/
namespace Go.Proofs.Ytlggefcaiojemaa
open Go.ChangeShapes Go.WideShapes Go.RowKit
set_option linter.unusedVariables false

theorem open_bytes_one {H : Type} {enc : TypeId × Value → H} {W : World} {base : Nat} {held : Bool} {fuel : Nat} {v : Value} {x : DataW H × List MemPlace}
    (h : DataW.trod enc Try.prog W base (fun _ => true) held fuel 41 [v] = some x) : ∃ a zs c, v = .slice a zs.length c ∧ zs.length ≤ c ∧ zs.length ≤ 9223372036854775807 ∧ Reads W a zs ∧ ∀ z ∈ zs, 0 ≤ z ∧ z ≤ 255 := by
  have hml : maxLen = 9223372036854775807 := by decide
  rcases open_ints Try.underlying41 Try.underlying5 (by kernel_rfl) h with ⟨hcs, _⟩ | ⟨u, l', c', zs, hcs, _, hl', hm', hz, _, hc', hwz⟩
  · simp only [List.cons.injEq, and_true] at hcs
    exact ⟨none, [], 0, hcs, Nat.le_refl _, by simp, .inl rfl, fun z hz => by simp at hz⟩
  · simp only [List.cons.injEq, and_true] at hcs
    have hrow : IsRow .u8 W (some u) l' c' zs := .inr ⟨u, rfl, hl', hm', by simpa using hz, hc', hwz⟩
    obtain ⟨h1, h2, h3, h4⟩ := isRow_reads hrow
    exact ⟨some u, zs.take l', c', by rw [hcs]; simp only [h1], by rw [h1]; exact h2, by rw [h1]; omega, h3, h4⟩

theorem open_pages {H : Type} {enc : TypeId × Value → H} {W : World} {base : Nat} {held : Bool} {fuel : Nat} {a : Option Addr} {len cap : Nat} {x : DataW H × List MemPlace}
    (h : DataW.trod enc Try.prog W base (fun _ => true) held fuel 22 [.slice a len cap] = some x) : ∃ ps, IsPages W a len ps := by
  have hml : maxLen = 9223372036854775807 := by decide
  rcases Go.Deep.open_slice Try.underlying22 h with ⟨hcs, _⟩ | ⟨y, l, c, m, n, Dd, Pl, hcs, hb, hl, hm, hmm, _, hx⟩
  · simp only [List.cons.injEq, Value.slice.injEq, and_true] at hcs
    obtain ⟨rfl, rfl, rfl⟩ := hcs
    exact ⟨[], .inl rfl, rfl, by omega, fun r hr => by simp at hr⟩
  · simp only [List.cons.injEq, Value.slice.injEq, and_true] at hcs
    obtain ⟨rfl, rfl, rfl⟩ := hcs
    simp only [if_true] at hmm
    subst hmm
    have ce : Try.prog.cellsOf 41 = 1 := by kernel_rfl
    have each : ∀ i, i < len → ∃ q : Option Addr × List Int × Nat, W.cell? (y.add i) = some (.slice q.1 q.2.1.length q.2.2) ∧ q.2.1.length ≤ q.2.2 ∧ q.2.1.length ≤ 9223372036854775807 ∧ Reads W q.1 q.2.1 ∧ ∀ z ∈ q.2.1, 0 ≤ z ∧ z ≤ 255 := by
      intro i hi
      obtain ⟨cs', h1, h2⟩ := hx i (by omega)
      rw [ce] at h1
      obtain ⟨_, hlen, hcell⟩ := World.cells?_some h1
      obtain ⟨v, rfl⟩ : ∃ v, cs' = [v] := by
        match cs', hlen with
        | [v], _ => exact ⟨v, rfl⟩
      obtain ⟨a', zs, c', rfl, h3, h4, h5, h6⟩ := open_bytes_one h2
      have k0 := hcell 0 (by omega)
      rw [Go.Deep.add_add] at k0
      exact ⟨(a', zs, c'), by simpa using k0, h3, h4, h5, h6⟩
    obtain ⟨q, hq⟩ := Go.Deep.choose_lt each
    refine ⟨(List.range len).map (fun i => (q i).2.1), ?_, by simp, by omega, ?_⟩
    · by_cases h0 : len = 0
      · subst h0; exact .inl rfl
      · obtain ⟨b, off, spot⟩ := y
        have hc0 := (hq 0 (by omega)).1
        have hspot : spot = none := by simpa [Addr.add] using World.cell?_spot hc0
        subst hspot
        have ea : ∀ i, (⟨b, off, none⟩ : Addr).add i = ⟨b, off + i, none⟩ := by intro i; unfold Addr.add; split <;> simp_all
        refine .inr ⟨b, off, rfl, fun i r hr => ?_⟩
        obtain ⟨hi, rfl⟩ := list_of_fun (fun i => (q i).2.1) len hr
        obtain ⟨q0, q1, _, q3, _⟩ := hq i hi
        rw [ea] at q0
        exact ⟨_, _, q0, q1, q3⟩
    · intro r hr
      obtain ⟨i, hi, rfl⟩ := List.mem_map.1 hr
      obtain ⟨_, _, q2, _, q4⟩ := hq i (by simpa using hi)
      exact ⟨q2, q4⟩

end Go.Proofs.Ytlggefcaiojemaa

/-
  Pages marked: markByteSS.
-/
namespace Go.Proofs.Ytlggefcaiojemaa
open Go.RowKit
set_option linter.unusedVariables false

theorem Turned.widen {lo hi lo' hi' : Nat} {w w' : World} (h : Turned lo hi w w') (h1 : lo' ≤ lo) (h2 : hi ≤ hi') : Turned lo' hi' w w' := ⟨h.os, h.tape, h.output, h.size, fun k hk hn => h.block k hk (by omega)⟩

set_option maxHeartbeats 1000000 in
theorem markByteSS_any (g n c hi : Nat) (ps : List (List Int)) (F : Nat → Nat) (w : World) (hn : ps.length = n) (hm : n ≤ 1048576) (hp : PgOk ps) (hP : PartP w g n n ps F) (hhi : ∀ i zs, i < n → ps[i]? = some zs → zs ≠ [] → F i < hi) :
    Calls Try.prog 11 #[.slice (some ⟨g, 0, none⟩) n c, .int .i64 1] w fun e w' => ∃ r : Int, e = .returned (.int .i64 r) ∧ 0 ≤ r ∧ Turned (g + 1) hi w w' := by
  have HN : Hid (ps.length = n) := hn
  have HP : Hid (PgOk ps) := hp
  have HPt : Hid (PartP w g n n ps F) := hP
  have HHi : Hid (∀ i zs, i < n → ps[i]? = some zs → zs ≠ [] → F i < hi) := hhi
  clear hn hp hP hhi
  go_enter Try.func11, Try.ntmps11
  go_wp2_with fail
  go_loopw [5, 1] (fun i kk wr => ∃ (j : Nat) (r : Int), j ≤ n ∧ i = .int .i64 j ∧ kk = .int .i64 r ∧ 0 ≤ r ∧ r ≤ 1 + 1048576 * j ∧ Turned (g + 1) hi w wr ∧ Hid (∀ i zs, j ≤ i → ps[i]? = some zs → BytesIn (F i) (F i + 1) wr (some ⟨F i, 0, none⟩) zs)) (fun i _ _ => n - (intOf i).toNat)
  case atStart => exact ⟨0, 1, Nat.zero_le _, rfl, rfl, by omega, by omega, Turned.refl _ _ _, fun i zs _ hz => (HPt.out.c i zs (by rw [← HN.out]; exact (List.getElem?_eq_some_iff.1 hz).1) hz).2⟩
  case round =>
    obtain ⟨j, r, hj, rfl, rfl, hr0, hr1, ht, hB⟩ := hrel
    by_cases hlt : j < n
    · obtain ⟨zs, hzs⟩ := at_lt' (rs := ps) (i := j) (by rw [HN.out]; exact hlt)
      have hz1 := (HP.out zs (List.mem_of_getElem? hzs)).1
      have c0 := ht.cell (HPt.out.c j zs hlt hzs).1 (.inl (by simp))
      have hb := hB.out j zs (Nat.le_refl _) hzs
      have hFg := HPt.out.fr j hlt
      have hjn : (j : Int) < (n : Int) := by omega
      have hrb : r ≤ 140737488351232 := by omega
      by_cases hne : zs = []
      · subst hne
        have hb0 : BytesIn 0 0 wr (some ⟨F j, 0, none⟩) [] := .inl rfl
        go_wp2_with fail
        refine (markByteS_any _ 0 0 [] 0 0 r _ rfl (by omega) hr0 hrb hb0).mono ?_
        rintro e w2 ⟨rfl, t2, _⟩
        have HB2 : Hid (∀ i zs, j + 1 ≤ i → ps[i]? = some zs → BytesIn (F i) (F i + 1) w2 (some ⟨F i, 0, none⟩) zs) := fun i zs hi hz => (hB.out i zs (by omega) hz).turned t2 (.inr (Nat.zero_le _))
        have ht2 := ht.trans (Turned.widen (lo' := g + 1) (hi' := hi) ⟨t2.os, t2.tape, t2.output, t2.size, fun k hk _ => t2.block k hk (by omega)⟩ (Nat.le_refl _) (Nat.le_refl _))
        clear t2 c0 hb hb0 ht hB
        go_wp2_with fail
        go_roundw
        case rel => exact ⟨j + 1, r, by omega, by go_num, by simp, hr0, by omega, ht2, HB2⟩
        case measure => simp [intOf]; omega
      · have hFl := HHi.out j zs hlt hzs hne
        obtain ⟨zl, hzl⟩ : ∃ zl, zl = zs.length := ⟨_, rfl⟩
        rw [← hzl] at c0
        have hzl2 : zl ≤ 1048576 := by rw [hzl]; exact hz1
        have HZ : Hid (zs.length = zl) := hzl.symm
        clear hzl hz1
        go_wp2_with fail
        refine (markByteS_any _ (F j) (F j + 1) zs zl zl r _ HZ.out (by omega) hr0 hrb hb).mono ?_
        rintro e w2 ⟨rfl, t2, _⟩
        have HB2 : Hid (∀ i zs, j + 1 ≤ i → ps[i]? = some zs → BytesIn (F i) (F i + 1) w2 (some ⟨F i, 0, none⟩) zs) := fun i ys hi hz => by
          have hil : i < n := by rw [← HN.out]; exact (List.getElem?_eq_some_iff.1 hz).1
          have := HPt.out.ne j i zs (by omega) hil hzs hne
          exact (hB.out i ys (by omega) hz).turned t2 (.inr (by omega))
        have ht2 := ht.trans (t2.widen (lo' := g + 1) (hi' := hi) (by omega) (by omega))
        clear t2 c0 hb ht hB
        go_wp2_with fail
        go_roundw
        case rel => exact ⟨j + 1, r + zl, by omega, by go_num, rfl, by omega, by omega, ht2, HB2⟩
        case measure => simp [intOf]; omega
    · have e : j = n := by omega
      subst e
      go_wp2_with fail
      go_ret
      exact ⟨r, rfl, hr0, ht⟩

end Go.Proofs.Ytlggefcaiojemaa

/-
  The law FnExactDeleteEdits answers true.
-/
namespace Go.Proofs.Ytlggefcaiojemaa
open Go.RowKit
set_option linter.unusedVariables false

set_option maxRecDepth 20000 in
set_option maxHeartbeats 4000000 in
theorem lawDeleteEdits_any (a : Option Addr) (n c : Nat) (ps : List (List Int)) (t k : Int) (w : World) (h : IsPages w a n ps) (ht : (Lit.int .i64 t).wf = true) (hk : (Lit.int .i64 k).wf = true) :
    Calls Try.prog 3 #[.slice a n c, .int .i64 t, .int .i64 k] w fun e w' => e = .returned (.bool true) ∧ Below w.heap.size w w' := by
  clear ht hk
  have hm := h.ln
  have HI : Hid (IsPages w a n ps) := h
  clear h
  go_enter Try.func3, Try.ntmps3
  go_wp2_with fail
  refine (szByteSS_any a ps n c _ 1048576 HI.out (by omega) (by omega)).mono ?_
  rintro e w1 ⟨⟨r, rfl, hr1, hl⟩, hw1⟩
  subst w1
  by_cases h0 : r < 0
  · go_wp2_with fail
    go_ret
    exact ⟨rfl, Below.refl _ _⟩
  obtain ⟨hn, hpo⟩ := hl (by omega)
  have HP : Hid (PgOk ps) := hpo
  have HN : Hid (ps.length = n) := HI.out.eq
  have HR : Hid (PgRead w a ps) := HI.out.rd
  have h0 : ¬ (r < 0) := h0
  obtain ⟨hb1, hb2⟩ := de_big hpo t k
  have HSpec : Hid (∀ (a : Option Addr) (W : World), PgRdN W a ps → PgRead W a ps → Calls Try.prog 6 #[.slice a n n, .int .i64 t, .int .i64 k] W fun e w' => AePost (deQ ps t k) (deE ps t k) (deP ps t k) W e w') := fun a W h1 h2 => specDeleteEdits_any a ps n n t k W HN.out hn HP.out h1 h2
  have HImpl : Hid (∀ (a : Option Addr) (W : World), PgRdN W a ps → PgRead W a ps → Calls Try.prog 8 #[.slice a n n, .int .i64 t, .int .i64 k] W fun e w' => AePost (deQ ps t k) (deE ps t k) (deP ps t k) W e w') := fun a W h1 h2 => implDeleteEdits_any a ps n n t k W HN.out hn HP.out h1 h2
  generalize deQ ps t k = q at HSpec HImpl
  generalize deE ps t k = es at HSpec HImpl hb1
  generalize deP ps t k = qs at HSpec HImpl hb2
  obtain ⟨m, hm0⟩ : ∃ m, m = es.length := ⟨_, rfl⟩
  have HM : Hid (es.length = m) := hm0.symm
  obtain ⟨m2, hm2⟩ : ∃ m2, m2 = qs.length := ⟨_, rfl⟩
  have HM2 : Hid (qs.length = m2) := hm2.symm
  have HB : Hid (bigE es ≤ 2000000 ∧ bigQ qs ≤ 13000000) := ⟨hb1, hb2⟩
  clear hl hpo HI hm0 hm2 hb1 hb2
  go_wp2_with fail
  refine (toByteSS_any a ps n c _ HN.out hn HP.out HR.out).mono ?_
  rintro e w2 ⟨rfl, g2, hl2, F2, o2⟩
  have r2 := o2.reads HN.out
  have n2 := o2.readsN HN.out
  clear o2 hl2 F2
  go_wp2_with fail
  refine (HSpec.out _ _ n2 r2).mono ?_
  rintro e w3 hri
  obtain ⟨a3, c3, a4, c4, rfl, g3, s3⟩ := hri.form
  have hs3 := g3.size
  rw [HM.out, HM2.out]
  have g3 : Below w.heap.size w w3 := g2.trans (g3.mono g2.size)
  have hs2 := g2.size
  clear r2 n2 hri g2
  go_upto_region 6 with (fail)
  generalize hY : World.alloc _ _ = Y
  have gY : Below w3.heap.size w3 Y := by rw [← hY]; go_grown
  have C3 : RsE Y w3.heap.size q a3 m c3 a4 m2 c4 := by rw [← hY]; exact ⟨by simp [go_sem], by simp [go_sem], by simp [go_sem]⟩
  have s3 := s3.below gY
  have hl3 := C3.lt
  have g3 := g3.trans (gY.mono g3.size)
  clear hY gY
  generalize w3.heap.size = b3 at C3 s3 hl3 hs3 ⊢
  generalize w2.heap.size = b2 at s3 hs3 hs2
  go_wp2_with fail
  refine (toByteSS_any a ps n c _ HN.out hn HP.out (HR.out.below g3 (Nat.le_refl _))).mono ?_
  rintro e w4 ⟨rfl, g4, hl4, F4, o4⟩
  have C3 := C3.below g4
  have s3 := s3.below g4
  have HF : Hid (∀ i zs, i < n → ps[i]? = some zs → zs ≠ [] → F4 i < w4.heap.size) := fun i zs hi hz hne => o4.lt hi hz hne
  have g4 : Below w.heap.size w w4 := g3.trans (g4.mono g3.size)
  have r4 := o4.reads HN.out
  have n4 := o4.readsN HN.out
  generalize Y.heap.size = b4 at r4 n4 o4 hl4 hl3 ⊢
  clear g3
  go_wp2_with fail
  refine (HImpl.out _ _ n4 r4).mono ?_
  rintro e w5 hri
  obtain ⟨a5, c5, a6, c6, rfl, g5, s5⟩ := hri.form
  rw [HM.out, HM2.out]
  have hs5 := g5.size
  have C3 := C3.below g5
  have s3 := s3.below g5
  have o5 := o4.below hl4 g5
  have hl5 := Nat.lt_of_lt_of_le hl4 g5.size
  have g5 : Below w.heap.size w w5 := g4.trans (g5.mono g4.size)
  clear g4 o4 r4 n4 hri
  go_upto_region 8 with (fail)
  generalize hY : World.alloc _ _ = Y5
  have gY : Below w5.heap.size w5 Y5 := by rw [← hY]; go_grown
  have C5 : RsE Y5 w5.heap.size q a5 m c5 a6 m2 c6 := by rw [← hY]; exact ⟨by simp [go_sem], by simp [go_sem], by simp [go_sem]⟩
  have C3 := C3.below gY
  have s3 := s3.below gY
  have s5 := s5.below gY
  have o5 := o5.below hl5 gY
  have hl5 := Nat.lt_of_lt_of_le hl5 gY.size
  have g5 := g5.trans (gY.mono g5.size)
  clear hY gY
  generalize w5.heap.size = b5 at C5 s5 hs5 ⊢
  generalize w4.heap.size = b6 at s5 hs5 hl4 HF
  have hcon := eqEd_same q a5 a6 a3 a4 m m2 c5 c6 c3 c4 es qs _ _ _ _ Y5 HM.out HM2.out HB.out.1 HB.out.2 s5 s3
  obtain ⟨x0, x1, x2⟩ := C3
  obtain ⟨y0, y1, y2⟩ := C5
  go_wp2_with (go_at_call 9; refine hcon.mono ?_)
  rintro e w6 ⟨rfl, g6⟩
  have C3 : RsE w6 b3 q a3 m c3 a4 m2 c4 := RsE.below (w := Y5) ⟨x0, x1, x2⟩ g6
  have C5 : RsE w6 b5 q a5 m c5 a6 m2 c6 := RsE.below (w := Y5) ⟨y0, y1, y2⟩ g6
  have s3 := s3.below g6
  have s5 := s5.below g6
  have o6 := o5.below hl5 g6
  have hl6 := Nat.lt_of_lt_of_le hl5 g6.size
  have g6 := g5.trans (g6.mono g5.size)
  clear g5 o5 hl5 x0 x1 x2 y0 y1 y2 hcon
  go_wp2_with fail
  refine (toByteSS_any a ps n c _ HN.out hn HP.out (HR.out.below g6 (Nat.le_refl _))).mono ?_
  rintro e w7 ⟨rfl, g7, hl7, F7, o7⟩
  have C3 := C3.below g7
  have C5 := C5.below g7
  have s3 := s3.below g7
  have s5 := s5.below g7
  have o6 := o6.below hl6 g7
  have hl6 := Nat.lt_of_lt_of_le hl6 g7.size
  have g7 : Below w.heap.size w w7 := g6.trans (g7.mono g6.size)
  generalize w6.heap.size = b7 at o7 hl7 ⊢
  clear g6
  go_wp2_with fail
  refine (eqByteSS_same _ _ ps n F4 F7 _ HN.out hm HP.out o6 o7 hl6 hl7).mono ?_
  rintro e w8 ⟨rfl, g8⟩
  have C3 := C3.below g8
  have C5 := C5.below g8
  have s3 := s3.below g8
  have s5 := s5.below g8
  have o8 := o6.below hl6 g8
  have g8 : Below w.heap.size w w8 := g7.trans (g8.mono g7.size)
  clear g7 o6 o7 hl7
  go_wp2_with fail
  refine (markByteSS_any b4 n n b6 ps F4 _ HN.out hn HP.out o8 HF.out).mono ?_
  rintro e w9 ⟨k9, rfl, hk9, t9⟩
  have hk9 : ¬ k9 < 0 := by omega
  have C3 := C3.turned t9 (.inl (by omega))
  have C5 := C5.turned t9 (.inr (by omega))
  have s3 := s3.turned t9 (.inl (by omega))
  have s5 := s5.turned t9 (.inr (by omega))
  have hs8 := g8.size
  have g9 : Below w.heap.size w w9 := g8.trans (t9.toBelow hs8 (by omega))
  clear g8 o8 t9
  obtain ⟨x0, x1, x2⟩ := C3
  obtain ⟨y0, y1, y2⟩ := C5
  have hcon := eqEd_same q a5 a6 a3 a4 m m2 c5 c6 c3 c4 es qs _ _ _ _ w9 HM.out HM2.out HB.out.1 HB.out.2 s5 s3
  go_wp2_with (go_at_call 9; refine hcon.mono ?_)
  rintro e w10 ⟨rfl, g10⟩
  have C3 : RsE w10 b3 q a3 m c3 a4 m2 c4 := RsE.below (w := w9) ⟨x0, x1, x2⟩ g10
  have C5 : RsE w10 b5 q a5 m c5 a6 m2 c6 := RsE.below (w := w9) ⟨y0, y1, y2⟩ g10
  have s3 := s3.below g10
  have s5 := s5.below g10
  have g10 := g9.trans (g10.mono g9.size)
  clear g9 x0 x1 x2 y0 y1 y2 hcon
  obtain ⟨y0, y1, y2⟩ := C5
  have hb5s : b5 ≤ w10.heap.size := Nat.le_of_lt (World.block_lt_of_cell? w10 _ y0)
  have hcon := markEd_any q a5 a6 m m2 c5 c6 es qs b6 b5 w10 HM.out HM2.out HB.out.1 HB.out.2 s5 hb5s
  obtain ⟨mm, hmm⟩ : ∃ mm : Int, mm = endQ qs (endE es 1) := ⟨_, rfl⟩
  have hmm0 : ¬ mm < 0 := by have := endQE_pos es qs HB.out.1; omega
  have HMM : Hid (endQ qs (endE es 1) = mm) := hmm.symm
  rw [← hmm] at hcon
  clear hmm
  go_wp2_with (go_at_call 12; refine hcon.mono ?_)
  rintro e w11 ⟨rfl, t11, s5'⟩
  have C3 := C3.turned t11 (.inl (by omega))
  have C5 : RsE w11 b5 q a5 m c5 a6 m2 c6 := RsE.turned (w := w10) ⟨y0, y1, y2⟩ t11 (.inr (Nat.le_refl _))
  have s3 := s3.turned t11 (.inl (by omega))
  have hs10 := g10.size
  have g11 : Below w.heap.size w w11 := g10.trans (t11.toBelow hs10 (by omega))
  clear g10 t11 y0 y1 y2 hcon s5
  obtain ⟨y0, y1, y2⟩ := C5
  have hcon := heldEd_any q a5 a6 m m2 c5 c6 es qs b6 b5 w11 HM.out HM2.out HB.out.1 HB.out.2 s5'
  rw [HMM.out] at hcon
  go_wp2_with (go_at_call 13; refine hcon.mono ?_)
  rintro e w12 ⟨rfl, g12⟩
  have C3 := C3.below g12
  have C5 : RsE w12 b5 q a5 m c5 a6 m2 c6 := RsE.below (w := w11) ⟨y0, y1, y2⟩ g12
  have s3 := s3.below g12
  have s5 := s5'.below g12
  have g12 := g11.trans (g12.mono g11.size)
  clear g11 y0 y1 y2 hcon s5'
  go_wp2_with fail
  refine (toByteSS_any a ps n c _ HN.out hn HP.out (HR.out.below g12 (Nat.le_refl _))).mono ?_
  rintro e w13 ⟨rfl, g13, hl13, F13, o13⟩
  have C3 := C3.below g13
  have C5 := C5.below g13
  have s3 := s3.below g13
  have s5 := s5.below g13
  have r13 := o13.reads HN.out
  have n13 := o13.readsN HN.out
  have g13 : Below w.heap.size w w13 := g12.trans (g13.mono g12.size)
  generalize w12.heap.size = b13 at r13 n13 ⊢
  clear g12 o13 hl13 F13
  go_wp2_with fail
  refine (HImpl.out _ _ n13 r13).mono ?_
  rintro e w14 hri
  obtain ⟨a14, c14, a15, c15, rfl, g14, s14⟩ := hri.form
  rw [HM.out, HM2.out]
  have C3 := C3.below g14
  have C5 := C5.below g14
  have s3 := s3.below g14
  have s5 := s5.below g14
  have g14 : Below w.heap.size w w14 := g13.trans (g14.mono g13.size)
  clear g13 r13 n13 hri
  go_upto_region 25 with (fail)
  generalize hY : World.alloc _ _ = Y14
  have gY : Below w14.heap.size w14 Y14 := by rw [← hY]; go_grown
  have C14 : RsE Y14 w14.heap.size q a14 m c14 a15 m2 c15 := by rw [← hY]; exact ⟨by simp [go_sem], by simp [go_sem], by simp [go_sem]⟩
  have C3 := C3.below gY
  have C5 := C5.below gY
  have s3 := s3.below gY
  have s5 := s5.below gY
  have s14 := s14.below gY
  have g14 := g14.trans (gY.mono g14.size)
  clear hY gY
  generalize w14.heap.size = b14 at C14 s14 ⊢
  have hcon := eqEd_same q a14 a15 a3 a4 m m2 c14 c15 c3 c4 es qs _ _ _ _ Y14 HM.out HM2.out HB.out.1 HB.out.2 s14 s3
  obtain ⟨x0, x1, x2⟩ := C3
  obtain ⟨z0, z1, z2⟩ := C14
  go_wp2_with (go_at_call 9; refine hcon.mono ?_)
  rintro e w15 ⟨rfl, g15⟩
  have C5 := C5.below g15
  have s5 := s5.below g15
  have g15 := g14.trans (g15.mono g14.size)
  clear g14 x0 x1 x2 z0 z1 z2 hcon s14 s3
  obtain ⟨y0, y1, y2⟩ := C5
  have hcon := heldEd_any q a5 a6 m m2 c5 c6 es qs b6 b5 w15 HM.out HM2.out HB.out.1 HB.out.2 s5
  rw [HMM.out] at hcon
  go_wp2_with (go_at_call 13; refine hcon.mono ?_)
  rintro e w16 ⟨rfl, g16⟩
  have g16 := g15.trans (g16.mono g15.size)
  clear g15 hcon y0 y1 y2
  go_wp2_with fail
  go_ret
  exact ⟨rfl, g16⟩

end Go.Proofs.Ytlggefcaiojemaa
