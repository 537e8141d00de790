/-
  What came in, opened: pages. The law FnExactPagesFault answers true.
-/
import Derived.Test.YtcadkclppejdgaaSPgs
import Derived.Test.YtcadkclppejdgaaSMfa
import Derived.Deep.SlicePairs
import Derived.OpenShut
import Derived.ProofKit
import Derived.Test.YtcadkclppejdgaaSMks
import Derived.Test.YtcadkclppejdgaaSHdc

namespace Go.Proofs.Ytcadkclppejdgaa
open Go.ChangeShapes Go.WideShapes Go.RowKit
set_option linter.unusedVariables false

theorem open_bytes_one {H : Type} {enc : TypeId × Value → H} {W : World} {base : Nat} {held : Bool} {fuel : Nat} {v : Value} {x : DataW H × List MemPlace}
    (h : DataW.trod enc Try.prog W base (fun _ => true) held fuel 63 [v] = some x) : ∃ a zs c, v = .slice a zs.length c ∧ zs.length ≤ c ∧ zs.length ≤ 9223372036854775807 ∧ Reads W a zs ∧ ∀ z ∈ zs, 0 ≤ z ∧ z ≤ 255 := by
  have hml : maxLen = 9223372036854775807 := by decide
  rcases open_ints Try.underlying63 Try.underlying5 (by kernel_rfl) h with ⟨hcs, _⟩ | ⟨u, l', c', zs, hcs, _, hl', hm', hz, _, hc', hwz⟩
  · simp only [List.cons.injEq, and_true] at hcs
    exact ⟨none, [], 0, hcs, Nat.le_refl _, by simp, .inl rfl, fun z hz => by simp at hz⟩
  · simp only [List.cons.injEq, and_true] at hcs
    have hrow : IsRow .u8 W (some u) l' c' zs := .inr ⟨u, rfl, hl', hm', by simpa using hz, hc', hwz⟩
    obtain ⟨h1, h2, h3, h4⟩ := isRow_reads hrow
    exact ⟨some u, zs.take l', c', by rw [hcs]; simp only [h1], by rw [h1]; exact h2, by rw [h1]; omega, h3, h4⟩

theorem open_pages {H : Type} {enc : TypeId × Value → H} {W : World} {base : Nat} {held : Bool} {fuel : Nat} {a : Option Addr} {len cap : Nat} {x : DataW H × List MemPlace}
    (h : DataW.trod enc Try.prog W base (fun _ => true) held fuel 22 [.slice a len cap] = some x) : ∃ ps, IsPages W a len ps := by
  have hml : maxLen = 9223372036854775807 := by decide
  rcases Go.Deep.open_slice Try.underlying22 h with ⟨hcs, _⟩ | ⟨y, l, c, m, n, Dd, Pl, hcs, hb, hl, hm, hmm, _, hx⟩
  · simp only [List.cons.injEq, Value.slice.injEq, and_true] at hcs
    obtain ⟨rfl, rfl, rfl⟩ := hcs
    exact ⟨[], .inl rfl, rfl, by omega, fun r hr => by simp at hr⟩
  · simp only [List.cons.injEq, Value.slice.injEq, and_true] at hcs
    obtain ⟨rfl, rfl, rfl⟩ := hcs
    simp only [if_true] at hmm
    subst hmm
    have ce : Try.prog.cellsOf 63 = 1 := by kernel_rfl
    have each : ∀ i, i < len → ∃ q : Option Addr × List Int × Nat, W.cell? (y.add i) = some (.slice q.1 q.2.1.length q.2.2) ∧ q.2.1.length ≤ q.2.2 ∧ q.2.1.length ≤ 9223372036854775807 ∧ Reads W q.1 q.2.1 ∧ ∀ z ∈ q.2.1, 0 ≤ z ∧ z ≤ 255 := by
      intro i hi
      obtain ⟨cs', h1, h2⟩ := hx i (by omega)
      rw [ce] at h1
      obtain ⟨_, hlen, hcell⟩ := World.cells?_some h1
      obtain ⟨v, rfl⟩ : ∃ v, cs' = [v] := by
        match cs', hlen with
        | [v], _ => exact ⟨v, rfl⟩
      obtain ⟨a', zs, c', rfl, h3, h4, h5, h6⟩ := open_bytes_one h2
      have k0 := hcell 0 (by omega)
      rw [Go.Deep.add_add] at k0
      exact ⟨(a', zs, c'), by simpa using k0, h3, h4, h5, h6⟩
    obtain ⟨q, hq⟩ := Go.Deep.choose_lt each
    refine ⟨(List.range len).map (fun i => (q i).2.1), ?_, by simp, by omega, ?_⟩
    · by_cases h0 : len = 0
      · subst h0; exact .inl rfl
      · obtain ⟨b, off, spot⟩ := y
        have hc0 := (hq 0 (by omega)).1
        have hspot : spot = none := by simpa [Addr.add] using World.cell?_spot hc0
        subst hspot
        have ea : ∀ i, (⟨b, off, none⟩ : Addr).add i = ⟨b, off + i, none⟩ := by intro i; unfold Addr.add; split <;> simp_all
        refine .inr ⟨b, off, rfl, fun i r hr => ?_⟩
        obtain ⟨hi, rfl⟩ := list_of_fun (fun i => (q i).2.1) len hr
        obtain ⟨q0, q1, _, q3, _⟩ := hq i hi
        rw [ea] at q0
        exact ⟨_, _, q0, q1, q3⟩
    · intro r hr
      obtain ⟨i, hi, rfl⟩ := List.mem_map.1 hr
      obtain ⟨_, _, q2, _, q4⟩ := hq i (by simpa using hi)
      exact ⟨q2, q4⟩

set_option maxHeartbeats 1000000 in
theorem lawPagesFault_any (a : Option Addr) (n c : Nat) (ps : List (List Int)) (w : World) (h : IsPages w a n ps) :
    Calls Try.prog 3 #[.slice a n c] w fun e w' => e = .returned (.bool true) ∧ Below w.heap.size w w' := by
  have hm := h.ln
  have HI : Hid (IsPages w a n ps) := h
  obtain ⟨q, hq⟩ : ∃ q, q = viewQ ps := ⟨_, rfl⟩
  have HQ : Hid (viewQ ps = q) := hq.symm
  clear hq h
  go_enter Try.func3, Try.ntmps3
  go_wp2_with fail
  refine (szByteSS_any a ps n c _ 1048576 HI.out (by omega) (by omega)).mono ?_
  rintro e w1 ⟨⟨r, rfl, hr1, hl⟩, hw1⟩
  subst w1
  by_cases h0 : r < 0
  · go_wp2_with fail
    go_ret
    exact ⟨rfl, Below.refl _ _⟩
  obtain ⟨hn, hpo⟩ := hl (by omega)
  have HP : Hid (PgOk ps) := hpo
  have HN : Hid (ps.length = n) := HI.out.eq
  have HR : Hid (PgRead w a ps) := HI.out.rd
  have h0 : ¬ (r < 0) := h0
  clear hl hpo HI
  go_wp2_with fail
  refine (toByteSS_any a ps n c _ HN.out hn HP.out HR.out).mono ?_
  rintro e w2 ⟨rfl, g2, hl2, F2, o2⟩
  have r2 := o2.reads HN.out
  clear o2 hl2 F2
  go_wp2_with fail
  refine (specPagesFault_any _ ps n n _ HN.out hm HP.out r2).mono ?_
  rintro e w3 ⟨rfl, g3⟩
  rw [HQ.out]
  have g3 : Below w.heap.size w w3 := g2.trans (g3.mono g2.size)
  clear g2 r2
  go_wp2_with fail
  refine (toByteSS_any a ps n c _ HN.out hn HP.out (HR.out.below g3 (Nat.le_refl _))).mono ?_
  rintro e w4 ⟨rfl, g4, hl4, F4, o4⟩
  have g4 : Below w.heap.size w w4 := g3.trans (g4.mono g3.size)
  have r4 := o4.reads HN.out
  generalize w3.heap.size = b4 at r4 o4 hl4 ⊢
  clear g3
  go_wp2_with fail
  refine (implPagesFault_any _ ps n n _ HN.out hm HP.out r4).mono ?_
  rintro e w5 ⟨rfl, g5⟩
  rw [HQ.out]
  have o5 := o4.below hl4 g5
  have hl5 := Nat.lt_of_lt_of_le hl4 g5.size
  have g5 : Below w.heap.size w w5 := g4.trans (g5.mono g4.size)
  clear g4 o4 r4 hl4
  go_wp2_with fail
  refine (toByteSS_any a ps n c _ HN.out hn HP.out (HR.out.below g5 (Nat.le_refl _))).mono ?_
  rintro e w6 ⟨rfl, g6, hl6, F6, o6⟩
  have o5 := o5.below hl5 g6
  have hl5 := Nat.lt_of_lt_of_le hl5 g6.size
  have g6 : Below w.heap.size w w6 := g5.trans (g6.mono g5.size)
  generalize w5.heap.size = b6 at o6 hl6 ⊢
  go_wp2_with fail
  refine (eqByteSS_same _ _ ps n F4 F6 _ HN.out hm HP.out o5 o6 hl5 hl6).mono ?_
  rintro e w7 ⟨rfl, g7⟩
  have g7 : Below w.heap.size w w7 := g6.trans (g7.mono g6.size)
  clear g6 o5 o6
  go_wp2_with fail
  go_ret
  exact ⟨rfl, g7⟩

end Go.Proofs.Ytcadkclppejdgaa

/-
  Pages marked: markByteSS; the results of RowsIn compared, marked, looked through.
-/
namespace Go.Proofs.Ytcadkclppejdgaa
open Go.RowKit
set_option linter.unusedVariables false

theorem Turned.widen {lo hi lo' hi' : Nat} {w w' : World} (h : Turned lo hi w w') (h1 : lo' ≤ lo) (h2 : hi ≤ hi') : Turned lo' hi' w w' := ⟨h.os, h.tape, h.output, h.size, fun k hk hn => h.block k hk (by omega)⟩

set_option maxHeartbeats 1000000 in
theorem markByteSS_any (g n c hi : Nat) (ps : List (List Int)) (F : Nat → Nat) (w : World) (hn : ps.length = n) (hm : n ≤ 1048576) (hp : PgOk ps) (hP : PartP w g n n ps F) (hhi : ∀ i zs, i < n → ps[i]? = some zs → zs ≠ [] → F i < hi) :
    Calls Try.prog 17 #[.slice (some ⟨g, 0, none⟩) n c, .int .i64 1] w fun e w' => ∃ r : Int, e = .returned (.int .i64 r) ∧ 0 ≤ r ∧ Turned (g + 1) hi w w' := by
  have HN : Hid (ps.length = n) := hn
  have HP : Hid (PgOk ps) := hp
  have HPt : Hid (PartP w g n n ps F) := hP
  have HHi : Hid (∀ i zs, i < n → ps[i]? = some zs → zs ≠ [] → F i < hi) := hhi
  clear hn hp hP hhi
  go_enter Try.func17, Try.ntmps17
  go_wp2_with fail
  go_loopw [5, 1] (fun i kk wr => ∃ (j : Nat) (r : Int), j ≤ n ∧ i = .int .i64 j ∧ kk = .int .i64 r ∧ 0 ≤ r ∧ r ≤ 1 + 1048576 * j ∧ Turned (g + 1) hi w wr ∧ Hid (∀ i zs, j ≤ i → ps[i]? = some zs → BytesIn (F i) (F i + 1) wr (some ⟨F i, 0, none⟩) zs)) (fun i _ _ => n - (intOf i).toNat)
  case atStart => exact ⟨0, 1, Nat.zero_le _, rfl, rfl, by omega, by omega, Turned.refl _ _ _, fun i zs _ hz => (HPt.out.c i zs (by rw [← HN.out]; exact (List.getElem?_eq_some_iff.1 hz).1) hz).2⟩
  case round =>
    obtain ⟨j, r, hj, rfl, rfl, hr0, hr1, ht, hB⟩ := hrel
    by_cases hlt : j < n
    · obtain ⟨zs, hzs⟩ := at_lt' (rs := ps) (i := j) (by rw [HN.out]; exact hlt)
      have hz1 := (HP.out zs (List.mem_of_getElem? hzs)).1
      have c0 := ht.cell (HPt.out.c j zs hlt hzs).1 (.inl (by simp))
      have hb := hB.out j zs (Nat.le_refl _) hzs
      have hFg := HPt.out.fr j hlt
      have hjn : (j : Int) < (n : Int) := by omega
      have hrb : r ≤ 140737488351232 := by omega
      by_cases hne : zs = []
      · subst hne
        have hb0 : BytesIn 0 0 wr (some ⟨F j, 0, none⟩) [] := .inl rfl
        go_wp2_with fail
        refine (markByteS_any _ 0 0 [] 0 0 r _ rfl (by omega) hr0 hrb hb0).mono ?_
        rintro e w2 ⟨rfl, t2, _⟩
        have HB2 : Hid (∀ i zs, j + 1 ≤ i → ps[i]? = some zs → BytesIn (F i) (F i + 1) w2 (some ⟨F i, 0, none⟩) zs) := fun i zs hi hz => (hB.out i zs (by omega) hz).turned t2 (.inr (Nat.zero_le _))
        have ht2 := ht.trans (Turned.widen (lo' := g + 1) (hi' := hi) ⟨t2.os, t2.tape, t2.output, t2.size, fun k hk _ => t2.block k hk (by omega)⟩ (Nat.le_refl _) (Nat.le_refl _))
        clear t2 c0 hb hb0 ht hB
        go_wp2_with fail
        go_roundw
        case rel => exact ⟨j + 1, r, by omega, by go_num, by simp, hr0, by omega, ht2, HB2⟩
        case measure => simp [intOf]; omega
      · have hFl := HHi.out j zs hlt hzs hne
        obtain ⟨zl, hzl⟩ : ∃ zl, zl = zs.length := ⟨_, rfl⟩
        rw [← hzl] at c0
        have hzl2 : zl ≤ 1048576 := by rw [hzl]; exact hz1
        have HZ : Hid (zs.length = zl) := hzl.symm
        clear hzl hz1
        go_wp2_with fail
        refine (markByteS_any _ (F j) (F j + 1) zs zl zl r _ HZ.out (by omega) hr0 hrb hb).mono ?_
        rintro e w2 ⟨rfl, t2, _⟩
        have HB2 : Hid (∀ i zs, j + 1 ≤ i → ps[i]? = some zs → BytesIn (F i) (F i + 1) w2 (some ⟨F i, 0, none⟩) zs) := fun i ys hi hz => by
          have hil : i < n := by rw [← HN.out]; exact (List.getElem?_eq_some_iff.1 hz).1
          have := HPt.out.ne j i zs (by omega) hil hzs hne
          exact (hB.out i ys (by omega) hz).turned t2 (.inr (by omega))
        have ht2 := ht.trans (t2.widen (lo' := g + 1) (hi' := hi) (by omega) (by omega))
        clear t2 c0 hb ht hB
        go_wp2_with fail
        go_roundw
        case rel => exact ⟨j + 1, r + zl, by omega, by go_num, rfl, by omega, by omega, ht2, HB2⟩
        case measure => simp [intOf]; omega
    · have e : j = n := by omega
      subst e
      go_wp2_with fail
      go_ret
      exact ⟨r, rfl, hr0, ht⟩

/-- Block b holds an answer of RowsIn. -/
structure RsC (w : World) (b : Nat) (q : Int) (a : Option Addr) (n c : Nat) : Prop where
  c0 : w.cell? ⟨b, 0, none⟩ = some (.int .i64 q)
  c1 : w.cell? ⟨b, 1, none⟩ = some (.slice a n c)
theorem RsC.lt {w : World} {b : Nat} {q : Int} {a : Option Addr} {n c : Nat} (h : RsC w b q a n c) : b < w.heap.size := World.block_lt_of_cell? w _ h.c0
theorem RsC.turned {w w' : World} {b : Nat} {q : Int} {a : Option Addr} {n c lo hi : Nat} (h : RsC w b q a n c) (ht : Turned lo hi w w') (hn : b < lo ∨ hi ≤ b) : RsC w' b q a n c := ⟨ht.cell h.c0 hn, ht.cell h.c1 hn⟩
theorem RsC.below {w w' : World} {b : Nat} {q : Int} {a : Option Addr} {n c : Nat} (h : RsC w b q a n c) (hb : Below w.heap.size w w') : RsC w' b q a n c := h.turned (Turned.ofBelow (lo := 0) (hi := 0) hb) (.inr (Nat.zero_le _))

set_option maxHeartbeats 1000000 in
theorem eqRowsResult_same (q : Int) (a a' : Option Addr) (rs : List Rw) (n c d : Nat) (w : World) (hn : rs.length = n) (hm : n ≤ 1000) (hx : Rs rwE 4 w a rs) (hy : Rs rwE 4 w a' rs) :
    Calls Try.prog 16 #[.agg #[.int .i64 q, .slice a n c], .agg #[.int .i64 q, .slice a' n d]] w fun e w' => e = .returned (.bool true) ∧ Below w.heap.size w w' := by
  have gX : Below w.heap.size w ((w.alloc (.cells #[.int .i64 q, .slice a n c] 30)).alloc (.cells #[.int .i64 q, .slice a' n d] 30)) := by go_grown
  have hcon := eqRowS_same a a' rs n c d _ hn (by omega) (hx.below gX (Nat.le_refl _)) (hy.below gX (Nat.le_refl _))
  clear hx hy hn
  go_enter Try.func16, Try.ntmps16
  go_wp2_with (go_at_call 28; refine hcon.mono ?_; rintro e w' ⟨rfl, g⟩)
  go_ret
  exact ⟨rfl, gX.trans (g.mono gX.size)⟩

set_option maxHeartbeats 1000000 in
theorem markRowsResult_any (q : Int) (a : Option Addr) (lo hi : Nat) (rs : List Rw) (n c : Nat) (w : World) (hn : rs.length = n) (hm : n ≤ 1000) (ha : SlIn rwE 4 lo hi w a rs) :
    Calls Try.prog 18 #[.agg #[.int .i64 q, .slice a n c], .int .i64 1] w fun e w' => e = .returned (.int .i64 ((1 + 4 * n : Nat) : Int)) ∧ Turned lo hi w w' ∧ SlIn rwE 4 lo hi w' a ((List.range n).map (mkR 1)) := by
  have gX : Below w.heap.size w (w.alloc (.cells #[.int .i64 q, .slice a n c] 30)) := by go_grown
  have hcon := markRowS_any a lo hi rs n c 1 _ hn hm (by omega) (by omega) (ha.below gX)
  have tX : Turned lo hi w (w.alloc (.cells #[.int .i64 q, .slice a n c] 30)) := Turned.ofBelow gX
  clear ha hn gX
  obtain ⟨r, hr⟩ : ∃ r : Int, r = ((1 + 4 * n : Nat) : Int) := ⟨_, rfl⟩
  rw [← hr] at hcon ⊢
  clear hr
  go_enter Try.func18, Try.ntmps18
  go_wp2_with (go_at_call 29; refine hcon.mono ?_; rintro e w' ⟨rfl, t, h⟩)
  go_ret
  exact ⟨rfl, tX.trans t, h⟩

set_option maxHeartbeats 1000000 in
theorem heldRowsResult_any (q : Int) (a : Option Addr) (n c : Nat) (w : World) (hm : n ≤ 1000) (ha : Rs rwE 4 w a ((List.range n).map (mkR 1))) :
    Calls Try.prog 19 #[.agg #[.int .i64 q, .slice a n c], .int .i64 1] w fun e w' => e = .returned (.int .i64 ((1 + 4 * n : Nat) : Int)) ∧ Below w.heap.size w w' := by
  have gX : Below w.heap.size w (w.alloc (.cells #[.int .i64 q, .slice a n c] 30)) := by go_grown
  have hcon := heldRowS_any a n c 1 _ hm (by omega) (by omega) (ha.below gX (Nat.le_refl _))
  clear ha
  obtain ⟨r, hr⟩ : ∃ r : Int, r = ((1 + 4 * n : Nat) : Int) := ⟨_, rfl⟩
  have hr0 : ¬ r < 0 := by omega
  rw [← hr] at hcon ⊢
  clear hr
  go_enter Try.func19, Try.ntmps19
  go_wp2_with (go_at_call 48; refine hcon.mono ?_; rintro e w' ⟨rfl, g⟩)
  go_ret
  exact ⟨rfl, gX.trans (g.mono gX.size)⟩

end Go.Proofs.Ytcadkclppejdgaa

/-
  cmp.Or of codes; answers of ChangesOf compared, marked, looked through; isNoChange.
-/
namespace Go.Proofs.Ytcadkclppejdgaa
open Go.RowKit
set_option linter.unusedVariables false

set_option maxHeartbeats 400000 in
theorem or64_any (b : Nat) (x y : Int) (w : World) (h0 : w.cell? ⟨b, 0, none⟩ = some (.int .i64 x)) (h1 : w.cell? ⟨b, 1, none⟩ = some (.int .i64 y)) :
    Calls Try.prog 57 #[.slice (some ⟨b, 0, none⟩) 2 2] w fun e w' => e = .returned (.int .i64 (orI x y)) ∧ w' = w := by
  by_cases hx : x = 0
  · subst hx
    by_cases hy : y = 0
    · subst hy
      have e : orI 0 0 = 0 := rfl
      rw [e]
      clear e
      go_enter Try.func57, Try.ntmps57
      go_wp2_with fail
      refine wp_loop_rounds 3 ?_
      rw [rounds_succ]
      go_wp2_with fail
      rw [rounds_succ]
      go_wp2_with fail
      rw [rounds_succ]
      go_wp2_with fail
      go_ret
      exact ⟨rfl, rfl⟩
    · have e : orI 0 y = y := rfl
      rw [e]
      clear e
      go_enter Try.func57, Try.ntmps57
      go_wp2_with fail
      refine wp_loop_rounds 3 ?_
      rw [rounds_succ]
      go_wp2_with fail
      rw [rounds_succ]
      go_wp2_with fail
      go_ret
      exact ⟨rfl, rfl⟩
  · have e : orI x y = x := by unfold orI; simp [hx]
    rw [e]
    clear e
    go_enter Try.func57, Try.ntmps57
    go_wp2_with fail
    refine wp_loop_rounds 3 ?_
    rw [rounds_succ]
    go_wp2_with fail
    go_ret
    exact ⟨rfl, rfl⟩

set_option maxHeartbeats 1000000 in
theorem eqChangesResult_same (q : Int) (a a' : Option Addr) (rs : List Chg) (n c d : Nat) (w : World) (hn : rs.length = n) (hm : n ≤ 1000) (hx : Rs chE 10 w a rs) (hy : Rs chE 10 w a' rs) :
    Calls Try.prog 27 #[.agg #[.int .i64 q, .slice a n c], .agg #[.int .i64 q, .slice a' n d]] w fun e w' => e = .returned (.bool true) ∧ Below w.heap.size w w' := by
  have gX : Below w.heap.size w ((w.alloc (.cells #[.int .i64 q, .slice a n c] 45)).alloc (.cells #[.int .i64 q, .slice a' n d] 45)) := by go_grown
  have hcon := eqChangeS_same a a' rs n c d _ hn (by omega) (hx.below gX (Nat.le_refl _)) (hy.below gX (Nat.le_refl _))
  clear hx hy hn
  go_enter Try.func27, Try.ntmps27
  go_wp2_with (go_at_call 38; refine hcon.mono ?_; rintro e w' ⟨rfl, g⟩)
  go_ret
  exact ⟨rfl, gX.trans (g.mono gX.size)⟩

set_option maxHeartbeats 1000000 in
theorem markChangesResult_any (q : Int) (a : Option Addr) (lo hi : Nat) (rs : List Chg) (n c : Nat) (w : World) (hn : rs.length = n) (hm : n ≤ 1000) (ha : SlIn chE 10 lo hi w a rs) :
    Calls Try.prog 30 #[.agg #[.int .i64 q, .slice a n c], .int .i64 1] w fun e w' => e = .returned (.int .i64 ((1 + 10 * n : Nat) : Int)) ∧ Turned lo hi w w' ∧ SlIn chE 10 lo hi w' a ((List.range n).map (mkC 1)) := by
  have gX : Below w.heap.size w (w.alloc (.cells #[.int .i64 q, .slice a n c] 45)) := by go_grown
  have hcon := markChangeS_any a lo hi rs n c 1 _ hn hm (by omega) (by omega) (ha.below gX)
  have tX : Turned lo hi w (w.alloc (.cells #[.int .i64 q, .slice a n c] 45)) := Turned.ofBelow gX
  clear ha hn gX
  obtain ⟨r, hr⟩ : ∃ r : Int, r = ((1 + 10 * n : Nat) : Int) := ⟨_, rfl⟩
  rw [← hr] at hcon ⊢
  clear hr
  go_enter Try.func30, Try.ntmps30
  go_wp2_with (go_at_call 39; refine hcon.mono ?_; rintro e w' ⟨rfl, t, h⟩)
  go_ret
  exact ⟨rfl, tX.trans t, h⟩

set_option maxHeartbeats 1000000 in
theorem heldChangesResult_any (q : Int) (a : Option Addr) (n c : Nat) (w : World) (hm : n ≤ 1000) (ha : Rs chE 10 w a ((List.range n).map (mkC 1))) :
    Calls Try.prog 31 #[.agg #[.int .i64 q, .slice a n c], .int .i64 1] w fun e w' => e = .returned (.int .i64 ((1 + 10 * n : Nat) : Int)) ∧ Below w.heap.size w w' := by
  have gX : Below w.heap.size w (w.alloc (.cells #[.int .i64 q, .slice a n c] 45)) := by go_grown
  have hcon := heldChangeS_any a n c 1 _ hm (by omega) (by omega) (ha.below gX (Nat.le_refl _))
  clear ha
  obtain ⟨r, hr⟩ : ∃ r : Int, r = ((1 + 10 * n : Nat) : Int) := ⟨_, rfl⟩
  have hr0 : ¬ r < 0 := by omega
  rw [← hr] at hcon ⊢
  clear hr
  go_enter Try.func31, Try.ntmps31
  go_wp2_with (go_at_call 60; refine hcon.mono ?_; rintro e w' ⟨rfl, g⟩)
  go_ret
  exact ⟨rfl, gX.trans (g.mono gX.size)⟩


/-- Whether a change is none. -/
def noC (x : Chg) : Prop := x.was = true ∧ x.is = true ∧ x.b = x.a

end Go.Proofs.Ytcadkclppejdgaa

/-
  isNoChange.
-/
namespace Go.Proofs.Ytcadkclppejdgaa
open Go.RowKit
set_option linter.unusedVariables false

def rwEq (a b : Rw) : Bool := (a.t == b.t) && (a.k == b.k) && (a.v == b.v) && decide (a.s = b.s)
def noB (x : Chg) : Bool := x.was && x.is && rwEq x.b x.a

set_option maxRecDepth 20000 in
set_option maxHeartbeats 1000000 in
theorem isNoChange_any (kx ky : Int) (x0 : Bool) (xt xk xv : Int) (xs : ByteArray) (x5 : Bool) (yt yk yv : Int) (ys : ByteArray) (w : World) :
    Calls Try.prog 90 #[.agg #[.int .i64 kx, .int .i64 ky], .agg #[.bool x0, .int .i64 xt, .int .i64 xk, .int .i64 xv, .string xs, .bool x5, .int .i64 yt, .int .i64 yk, .int .i64 yv, .string ys]] w fun e w' => e = .returned (.bool (noB ⟨x0, ⟨xt, xk, xv, xs⟩, x5, ⟨yt, yk, yv, ys⟩⟩)) ∧ Below w.heap.size w w' := by
  cases x0
  · have e : noB ⟨false, ⟨xt, xk, xv, xs⟩, x5, ⟨yt, yk, yv, ys⟩⟩ = false := rfl
    rw [e]
    go_enter Try.func90, Try.ntmps90
    go_wp2_with fail
    go_ret
    exact ⟨rfl, by go_grown⟩
  cases x5
  · have e : noB ⟨true, ⟨xt, xk, xv, xs⟩, false, ⟨yt, yk, yv, ys⟩⟩ = false := rfl
    rw [e]
    go_enter Try.func90, Try.ntmps90
    go_wp2_with fail
    go_ret
    exact ⟨rfl, by go_grown⟩
  · have e : noB ⟨true, ⟨xt, xk, xv, xs⟩, true, ⟨yt, yk, yv, ys⟩⟩ = rwEq ⟨xt, xk, xv, xs⟩ ⟨yt, yk, yv, ys⟩ := rfl
    rw [e]
    by_cases ht : xt = yt
    · subst ht
      by_cases hk : xk = yk
      · subst hk
        by_cases hv : xv = yv
        · subst hv
          by_cases hs : xs = ys
          · subst hs
            have e2 : rwEq ⟨xt, xk, xv, xs⟩ ⟨xt, xk, xv, xs⟩ = true := by simp [rwEq]
            rw [e2]
            clear e e2
            go_enter Try.func90, Try.ntmps90
            go_wp2_with fail
            go_ret
            exact ⟨rfl, by go_grown⟩
          · have e2 : rwEq ⟨xt, xk, xv, xs⟩ ⟨xt, xk, xv, ys⟩ = false := by simp [rwEq, hs]
            have d : ¬ xs.toList = ys.toList := fun h => hs (by rw [ByteArray.toList_eq, ByteArray.toList_eq] at h; exact ByteArray.ext (Array.toList_inj.1 h))
            rw [e2]
            clear e e2
            go_enter Try.func90, Try.ntmps90
            go_wp2_with fail
            go_ret
            exact ⟨rfl, by go_grown⟩
        · have e2 : rwEq ⟨xt, xk, xv, xs⟩ ⟨xt, xk, yv, ys⟩ = false := by simp [rwEq, hv]
          have d : (xv == yv) = false := by simpa using hv
          rw [e2]
          clear e e2
          go_enter Try.func90, Try.ntmps90
          go_wp2_with fail
          go_ret
          exact ⟨rfl, by go_grown⟩
      · have e2 : rwEq ⟨xt, xk, xv, xs⟩ ⟨xt, yk, yv, ys⟩ = false := by simp [rwEq, hk]
        have d : (xk == yk) = false := by simpa using hk
        rw [e2]
        clear e e2
        go_enter Try.func90, Try.ntmps90
        go_wp2_with fail
        go_ret
        exact ⟨rfl, by go_grown⟩
    · have e2 : rwEq ⟨xt, xk, xv, xs⟩ ⟨yt, yk, yv, ys⟩ = false := by simp [rwEq, ht]
      have d : (xt == yt) = false := by simpa using ht
      rw [e2]
      clear e e2
      go_enter Try.func90, Try.ntmps90
      go_wp2_with fail
      go_ret
      exact ⟨rfl, by go_grown⟩

end Go.Proofs.Ytcadkclppejdgaa
