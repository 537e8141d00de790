/-
  What came in, opened: pages. The law FnExactPagesFault answers true.
-/
import Derived.Test.YtonngopnhpmjaaaESrw
import Derived.Test.YtonngopnhpmjaaaEMfa
import Derived.Deep.SlicePairs
import Derived.OpenShut
import Derived.ProofKit
import Derived.Test.YtonngopnhpmjaaaEMks
import Derived.Test.YtonngopnhpmjaaaEHdc

namespace Go.Proofs.Ytonngopnhpmjaaa
open Go.ChangeShapes Go.WideShapes Go.RowKit
set_option linter.unusedVariables false

theorem open_bytes_one {H : Type} {enc : TypeId × Value → H} {W : World} {base : Nat} {held : Bool} {fuel : Nat} {v : Value} {x : DataW H × List MemPlace}
    (h : DataW.trod enc Try.prog W base (fun _ => true) held fuel 106 [v] = some x) : ∃ a zs c, v = .slice a zs.length c ∧ zs.length ≤ c ∧ zs.length ≤ 9223372036854775807 ∧ Reads W a zs ∧ ∀ z ∈ zs, 0 ≤ z ∧ z ≤ 255 := by
  have hml : maxLen = 9223372036854775807 := by decide
  rcases open_ints Try.underlying106 Try.underlying5 (by kernel_rfl) h with ⟨hcs, _⟩ | ⟨u, l', c', zs, hcs, _, hl', hm', hz, _, hc', hwz⟩
  · simp only [List.cons.injEq, and_true] at hcs
    exact ⟨none, [], 0, hcs, Nat.le_refl _, by simp, .inl rfl, fun z hz => by simp at hz⟩
  · simp only [List.cons.injEq, and_true] at hcs
    have hrow : IsRow .u8 W (some u) l' c' zs := .inr ⟨u, rfl, hl', hm', by simpa using hz, hc', hwz⟩
    obtain ⟨h1, h2, h3, h4⟩ := isRow_reads hrow
    exact ⟨some u, zs.take l', c', by rw [hcs]; simp only [h1], by rw [h1]; exact h2, by rw [h1]; omega, h3, h4⟩

theorem open_pages {H : Type} {enc : TypeId × Value → H} {W : World} {base : Nat} {held : Bool} {fuel : Nat} {a : Option Addr} {len cap : Nat} {x : DataW H × List MemPlace}
    (h : DataW.trod enc Try.prog W base (fun _ => true) held fuel 35 [.slice a len cap] = some x) : ∃ ps, IsPages W a len ps := by
  have hml : maxLen = 9223372036854775807 := by decide
  rcases Go.Deep.open_slice Try.underlying35 h with ⟨hcs, _⟩ | ⟨y, l, c, m, n, Dd, Pl, hcs, hb, hl, hm, hmm, _, hx⟩
  · simp only [List.cons.injEq, Value.slice.injEq, and_true] at hcs
    obtain ⟨rfl, rfl, rfl⟩ := hcs
    exact ⟨[], .inl rfl, rfl, by omega, fun r hr => by simp at hr⟩
  · simp only [List.cons.injEq, Value.slice.injEq, and_true] at hcs
    obtain ⟨rfl, rfl, rfl⟩ := hcs
    simp only [if_true] at hmm
    subst hmm
    have ce : Try.prog.cellsOf 106 = 1 := by kernel_rfl
    have each : ∀ i, i < len → ∃ q : Option Addr × List Int × Nat, W.cell? (y.add i) = some (.slice q.1 q.2.1.length q.2.2) ∧ q.2.1.length ≤ q.2.2 ∧ q.2.1.length ≤ 9223372036854775807 ∧ Reads W q.1 q.2.1 ∧ ∀ z ∈ q.2.1, 0 ≤ z ∧ z ≤ 255 := by
      intro i hi
      obtain ⟨cs', h1, h2⟩ := hx i (by omega)
      rw [ce] at h1
      obtain ⟨_, hlen, hcell⟩ := World.cells?_some h1
      obtain ⟨v, rfl⟩ : ∃ v, cs' = [v] := by
        match cs', hlen with
        | [v], _ => exact ⟨v, rfl⟩
      obtain ⟨a', zs, c', rfl, h3, h4, h5, h6⟩ := open_bytes_one h2
      have k0 := hcell 0 (by omega)
      rw [Go.Deep.add_add] at k0
      exact ⟨(a', zs, c'), by simpa using k0, h3, h4, h5, h6⟩
    obtain ⟨q, hq⟩ := Go.Deep.choose_lt each
    refine ⟨(List.range len).map (fun i => (q i).2.1), ?_, by simp, by omega, ?_⟩
    · by_cases h0 : len = 0
      · subst h0; exact .inl rfl
      · obtain ⟨b, off, spot⟩ := y
        have hc0 := (hq 0 (by omega)).1
        have hspot : spot = none := by simpa [Addr.add] using World.cell?_spot hc0
        subst hspot
        have ea : ∀ i, (⟨b, off, none⟩ : Addr).add i = ⟨b, off + i, none⟩ := by intro i; unfold Addr.add; split <;> simp_all
        refine .inr ⟨b, off, rfl, fun i r hr => ?_⟩
        obtain ⟨hi, rfl⟩ := list_of_fun (fun i => (q i).2.1) len hr
        obtain ⟨q0, q1, _, q3, _⟩ := hq i hi
        rw [ea] at q0
        exact ⟨_, _, q0, q1, q3⟩
    · intro r hr
      obtain ⟨i, hi, rfl⟩ := List.mem_map.1 hr
      obtain ⟨_, _, q2, _, q4⟩ := hq i (by simpa using hi)
      exact ⟨q2, q4⟩

end Go.Proofs.Ytonngopnhpmjaaa

/-
  Pages marked: markByteSS; the results of RowsIn compared, marked, looked through.
-/
namespace Go.Proofs.Ytonngopnhpmjaaa
open Go.RowKit
set_option linter.unusedVariables false

theorem Turned.widen {lo hi lo' hi' : Nat} {w w' : World} (h : Turned lo hi w w') (h1 : lo' ≤ lo) (h2 : hi ≤ hi') : Turned lo' hi' w w' := ⟨h.os, h.tape, h.output, h.size, fun k hk hn => h.block k hk (by omega)⟩

set_option maxHeartbeats 1000000 in
theorem markByteSS_any (g n c hi : Nat) (ps : List (List Int)) (F : Nat → Nat) (w : World) (hn : ps.length = n) (hm : n ≤ 1048576) (hp : PgOk ps) (hP : PartP w g n n ps F) (hhi : ∀ i zs, i < n → ps[i]? = some zs → zs ≠ [] → F i < hi) :
    Calls Try.prog 28 #[.slice (some ⟨g, 0, none⟩) n c, .int .i64 1] w fun e w' => ∃ r : Int, e = .returned (.int .i64 r) ∧ 0 ≤ r ∧ Turned (g + 1) hi w w' := by
  have HN : Hid (ps.length = n) := hn
  have HP : Hid (PgOk ps) := hp
  have HPt : Hid (PartP w g n n ps F) := hP
  have HHi : Hid (∀ i zs, i < n → ps[i]? = some zs → zs ≠ [] → F i < hi) := hhi
  clear hn hp hP hhi
  go_enter Try.func28, Try.ntmps28
  go_wp2_with fail
  go_loopw [5, 1] (fun i kk wr => ∃ (j : Nat) (r : Int), j ≤ n ∧ i = .int .i64 j ∧ kk = .int .i64 r ∧ 0 ≤ r ∧ r ≤ 1 + 1048576 * j ∧ Turned (g + 1) hi w wr ∧ Hid (∀ i zs, j ≤ i → ps[i]? = some zs → BytesIn (F i) (F i + 1) wr (some ⟨F i, 0, none⟩) zs)) (fun i _ _ => n - (intOf i).toNat)
  case atStart => exact ⟨0, 1, Nat.zero_le _, rfl, rfl, by omega, by omega, Turned.refl _ _ _, fun i zs _ hz => (HPt.out.c i zs (by rw [← HN.out]; exact (List.getElem?_eq_some_iff.1 hz).1) hz).2⟩
  case round =>
    obtain ⟨j, r, hj, rfl, rfl, hr0, hr1, ht, hB⟩ := hrel
    by_cases hlt : j < n
    · obtain ⟨zs, hzs⟩ := at_lt' (rs := ps) (i := j) (by rw [HN.out]; exact hlt)
      have hz1 := (HP.out zs (List.mem_of_getElem? hzs)).1
      have c0 := ht.cell (HPt.out.c j zs hlt hzs).1 (.inl (by simp))
      have hb := hB.out j zs (Nat.le_refl _) hzs
      have hFg := HPt.out.fr j hlt
      have hjn : (j : Int) < (n : Int) := by omega
      have hrb : r ≤ 140737488351232 := by omega
      by_cases hne : zs = []
      · subst hne
        have hb0 : BytesIn 0 0 wr (some ⟨F j, 0, none⟩) [] := .inl rfl
        go_wp2_with fail
        refine (markByteS_any _ 0 0 [] 0 0 r _ rfl (by omega) hr0 hrb hb0).mono ?_
        rintro e w2 ⟨rfl, t2, _⟩
        have HB2 : Hid (∀ i zs, j + 1 ≤ i → ps[i]? = some zs → BytesIn (F i) (F i + 1) w2 (some ⟨F i, 0, none⟩) zs) := fun i zs hi hz => (hB.out i zs (by omega) hz).turned t2 (.inr (Nat.zero_le _))
        have ht2 := ht.trans (Turned.widen (lo' := g + 1) (hi' := hi) ⟨t2.os, t2.tape, t2.output, t2.size, fun k hk _ => t2.block k hk (by omega)⟩ (Nat.le_refl _) (Nat.le_refl _))
        clear t2 c0 hb hb0 ht hB
        go_wp2_with fail
        go_roundw
        case rel => exact ⟨j + 1, r, by omega, by go_num, by simp, hr0, by omega, ht2, HB2⟩
        case measure => simp [intOf]; omega
      · have hFl := HHi.out j zs hlt hzs hne
        obtain ⟨zl, hzl⟩ : ∃ zl, zl = zs.length := ⟨_, rfl⟩
        rw [← hzl] at c0
        have hzl2 : zl ≤ 1048576 := by rw [hzl]; exact hz1
        have HZ : Hid (zs.length = zl) := hzl.symm
        clear hzl hz1
        go_wp2_with fail
        refine (markByteS_any _ (F j) (F j + 1) zs zl zl r _ HZ.out (by omega) hr0 hrb hb).mono ?_
        rintro e w2 ⟨rfl, t2, _⟩
        have HB2 : Hid (∀ i zs, j + 1 ≤ i → ps[i]? = some zs → BytesIn (F i) (F i + 1) w2 (some ⟨F i, 0, none⟩) zs) := fun i ys hi hz => by
          have hil : i < n := by rw [← HN.out]; exact (List.getElem?_eq_some_iff.1 hz).1
          have := HPt.out.ne j i zs (by omega) hil hzs hne
          exact (hB.out i ys (by omega) hz).turned t2 (.inr (by omega))
        have ht2 := ht.trans (t2.widen (lo' := g + 1) (hi' := hi) (by omega) (by omega))
        clear t2 c0 hb ht hB
        go_wp2_with fail
        go_roundw
        case rel => exact ⟨j + 1, r + zl, by omega, by go_num, rfl, by omega, by omega, ht2, HB2⟩
        case measure => simp [intOf]; omega
    · have e : j = n := by omega
      subst e
      go_wp2_with fail
      go_ret
      exact ⟨r, rfl, hr0, ht⟩

/-- Block b holds an answer of RowsIn. -/
structure RsC (w : World) (b : Nat) (q : Int) (a : Option Addr) (n c : Nat) : Prop where
  c0 : w.cell? ⟨b, 0, none⟩ = some (.int .i64 q)
  c1 : w.cell? ⟨b, 1, none⟩ = some (.slice a n c)
theorem RsC.lt {w : World} {b : Nat} {q : Int} {a : Option Addr} {n c : Nat} (h : RsC w b q a n c) : b < w.heap.size := World.block_lt_of_cell? w _ h.c0
theorem RsC.turned {w w' : World} {b : Nat} {q : Int} {a : Option Addr} {n c lo hi : Nat} (h : RsC w b q a n c) (ht : Turned lo hi w w') (hn : b < lo ∨ hi ≤ b) : RsC w' b q a n c := ⟨ht.cell h.c0 hn, ht.cell h.c1 hn⟩
theorem RsC.below {w w' : World} {b : Nat} {q : Int} {a : Option Addr} {n c : Nat} (h : RsC w b q a n c) (hb : Below w.heap.size w w') : RsC w' b q a n c := h.turned (Turned.ofBelow (lo := 0) (hi := 0) hb) (.inr (Nat.zero_le _))

end Go.Proofs.Ytonngopnhpmjaaa

/-
  cmp.Or of codes; answers of ChangesOf compared, marked, looked through; isNoChange.
-/
namespace Go.Proofs.Ytonngopnhpmjaaa
open Go.RowKit
set_option linter.unusedVariables false

set_option maxHeartbeats 400000 in
theorem or64_any (b : Nat) (x y : Int) (w : World) (h0 : w.cell? ⟨b, 0, none⟩ = some (.int .i64 x)) (h1 : w.cell? ⟨b, 1, none⟩ = some (.int .i64 y)) :
    Calls Try.prog 52 #[.slice (some ⟨b, 0, none⟩) 2 2] w fun e w' => e = .returned (.int .i64 (orI x y)) ∧ w' = w := by
  by_cases hx : x = 0
  · subst hx
    by_cases hy : y = 0
    · subst hy
      have e : orI 0 0 = 0 := rfl
      rw [e]
      clear e
      go_enter Try.func52, Try.ntmps52
      go_wp2_with fail
      refine wp_loop_rounds 3 ?_
      rw [rounds_succ]
      go_wp2_with fail
      rw [rounds_succ]
      go_wp2_with fail
      rw [rounds_succ]
      go_wp2_with fail
      go_ret
      exact ⟨rfl, rfl⟩
    · have e : orI 0 y = y := rfl
      rw [e]
      clear e
      go_enter Try.func52, Try.ntmps52
      go_wp2_with fail
      refine wp_loop_rounds 3 ?_
      rw [rounds_succ]
      go_wp2_with fail
      rw [rounds_succ]
      go_wp2_with fail
      go_ret
      exact ⟨rfl, rfl⟩
  · have e : orI x y = x := by unfold orI; simp [hx]
    rw [e]
    clear e
    go_enter Try.func52, Try.ntmps52
    go_wp2_with fail
    refine wp_loop_rounds 3 ?_
    rw [rounds_succ]
    go_wp2_with fail
    go_ret
    exact ⟨rfl, rfl⟩

set_option maxHeartbeats 1000000 in
theorem eqChangesResult_same (q : Int) (a a' : Option Addr) (rs : List Chg) (n c d : Nat) (w : World) (hn : rs.length = n) (hm : n ≤ 1000) (hx : Rs chE 10 w a rs) (hy : Rs chE 10 w a' rs) :
    Calls Try.prog 12 #[.agg #[.int .i64 q, .slice a n c], .agg #[.int .i64 q, .slice a' n d]] w fun e w' => e = .returned (.bool true) ∧ Below w.heap.size w w' := by
  have gX : Below w.heap.size w ((w.alloc (.cells #[.int .i64 q, .slice a n c] 26)).alloc (.cells #[.int .i64 q, .slice a' n d] 26)) := by go_grown
  have hcon := eqChangeS_same a a' rs n c d _ hn (by omega) (hx.below gX (Nat.le_refl _)) (hy.below gX (Nat.le_refl _))
  clear hx hy hn
  go_enter Try.func12, Try.ntmps12
  go_wp2_with (go_at_call 46; refine hcon.mono ?_; rintro e w' ⟨rfl, g⟩)
  go_ret
  exact ⟨rfl, gX.trans (g.mono gX.size)⟩

set_option maxHeartbeats 1000000 in
theorem markChangesResult_any (q : Int) (a : Option Addr) (lo hi : Nat) (rs : List Chg) (n c : Nat) (w : World) (hn : rs.length = n) (hm : n ≤ 1000) (ha : SlIn chE 10 lo hi w a rs) :
    Calls Try.prog 15 #[.agg #[.int .i64 q, .slice a n c], .int .i64 1] w fun e w' => e = .returned (.int .i64 ((1 + 10 * n : Nat) : Int)) ∧ Turned lo hi w w' ∧ SlIn chE 10 lo hi w' a ((List.range n).map (mkC 1)) := by
  have gX : Below w.heap.size w (w.alloc (.cells #[.int .i64 q, .slice a n c] 26)) := by go_grown
  have hcon := markChangeS_any a lo hi rs n c 1 _ hn hm (by omega) (by omega) (ha.below gX)
  have tX : Turned lo hi w (w.alloc (.cells #[.int .i64 q, .slice a n c] 26)) := Turned.ofBelow gX
  clear ha hn gX
  obtain ⟨r, hr⟩ : ∃ r : Int, r = ((1 + 10 * n : Nat) : Int) := ⟨_, rfl⟩
  rw [← hr] at hcon ⊢
  clear hr
  go_enter Try.func15, Try.ntmps15
  go_wp2_with (go_at_call 47; refine hcon.mono ?_; rintro e w' ⟨rfl, t, h⟩)
  go_ret
  exact ⟨rfl, tX.trans t, h⟩

set_option maxHeartbeats 1000000 in
theorem heldChangesResult_any (q : Int) (a : Option Addr) (n c : Nat) (w : World) (hm : n ≤ 1000) (ha : Rs chE 10 w a ((List.range n).map (mkC 1))) :
    Calls Try.prog 16 #[.agg #[.int .i64 q, .slice a n c], .int .i64 1] w fun e w' => e = .returned (.int .i64 ((1 + 10 * n : Nat) : Int)) ∧ Below w.heap.size w w' := by
  have gX : Below w.heap.size w (w.alloc (.cells #[.int .i64 q, .slice a n c] 26)) := by go_grown
  have hcon := heldChangeS_any a n c 1 _ hm (by omega) (by omega) (ha.below gX (Nat.le_refl _))
  clear ha
  obtain ⟨r, hr⟩ : ∃ r : Int, r = ((1 + 10 * n : Nat) : Int) := ⟨_, rfl⟩
  have hr0 : ¬ r < 0 := by omega
  rw [← hr] at hcon ⊢
  clear hr
  go_enter Try.func16, Try.ntmps16
  go_wp2_with (go_at_call 57; refine hcon.mono ?_; rintro e w' ⟨rfl, g⟩)
  go_ret
  exact ⟨rfl, gX.trans (g.mono gX.size)⟩


/-- Whether a change is none. -/
def noC (x : Chg) : Prop := x.was = true ∧ x.is = true ∧ x.b = x.a

end Go.Proofs.Ytonngopnhpmjaaa

/-
  isNothing.
-/
namespace Go.Proofs.Ytonngopnhpmjaaa
open Go.RowKit
set_option linter.unusedVariables false

def rwEq (a b : Rw) : Bool := (a.t == b.t) && (a.k == b.k) && (a.v == b.v) && decide (a.s = b.s)
def noB (x : Chg) : Bool := x.was && x.is && rwEq x.b x.a

/-- A change that is nothing. -/
def nthB (x : Chg) : Bool := (x.was == x.is) && (!x.was || rwEq x.b x.a)
theorem nthB_no {x : Chg} (h : x.was = true ∨ x.is = true) : nthB x = noB x := by
  obtain ⟨w, b, i, a⟩ := x
  unfold nthB noB
  cases w <;> cases i <;> simp at h ⊢

set_option maxRecDepth 20000 in
set_option maxHeartbeats 1000000 in
theorem isNothing_any (x0 : Bool) (xt xk xv : Int) (xs : ByteArray) (x5 : Bool) (yt yk yv : Int) (ys : ByteArray) (w : World) :
    Calls Try.prog 108 #[.agg #[.bool x0, .int .i64 xt, .int .i64 xk, .int .i64 xv, .string xs, .bool x5, .int .i64 yt, .int .i64 yk, .int .i64 yv, .string ys]] w fun e w' => e = .returned (.bool (nthB ⟨x0, ⟨xt, xk, xv, xs⟩, x5, ⟨yt, yk, yv, ys⟩⟩)) ∧ Below w.heap.size w w' := by
  cases x0 <;> cases x5
  · have e : nthB ⟨false, ⟨xt, xk, xv, xs⟩, false, ⟨yt, yk, yv, ys⟩⟩ = true := rfl
    rw [e]
    go_enter Try.func108, Try.ntmps108
    go_wp2_with fail
    go_ret
    exact ⟨rfl, by go_grown⟩
  · have e : nthB ⟨false, ⟨xt, xk, xv, xs⟩, true, ⟨yt, yk, yv, ys⟩⟩ = false := rfl
    rw [e]
    go_enter Try.func108, Try.ntmps108
    go_wp2_with fail
    go_ret
    exact ⟨rfl, by go_grown⟩
  · have e : nthB ⟨true, ⟨xt, xk, xv, xs⟩, false, ⟨yt, yk, yv, ys⟩⟩ = false := rfl
    rw [e]
    go_enter Try.func108, Try.ntmps108
    go_wp2_with fail
    go_ret
    exact ⟨rfl, by go_grown⟩
  · have e : nthB ⟨true, ⟨xt, xk, xv, xs⟩, true, ⟨yt, yk, yv, ys⟩⟩ = rwEq ⟨xt, xk, xv, xs⟩ ⟨yt, yk, yv, ys⟩ := rfl
    rw [e]
    by_cases ht : xt = yt
    · subst ht
      by_cases hk : xk = yk
      · subst hk
        by_cases hv : xv = yv
        · subst hv
          by_cases hs : xs = ys
          · subst hs
            have e2 : rwEq ⟨xt, xk, xv, xs⟩ ⟨xt, xk, xv, xs⟩ = true := by simp [rwEq]
            rw [e2]
            clear e e2
            go_enter Try.func108, Try.ntmps108
            go_wp2_with fail
            go_ret
            exact ⟨rfl, by go_grown⟩
          · have e2 : rwEq ⟨xt, xk, xv, xs⟩ ⟨xt, xk, xv, ys⟩ = false := by simp [rwEq, hs]
            have d : ¬ xs.toList = ys.toList := fun h => hs (by rw [ByteArray.toList_eq, ByteArray.toList_eq] at h; exact ByteArray.ext (Array.toList_inj.1 h))
            rw [e2]
            clear e e2
            go_enter Try.func108, Try.ntmps108
            go_wp2_with fail
            go_ret
            exact ⟨rfl, by go_grown⟩
        · have e2 : rwEq ⟨xt, xk, xv, xs⟩ ⟨xt, xk, yv, ys⟩ = false := by simp [rwEq, hv]
          have d : (xv == yv) = false := by simpa using hv
          rw [e2]
          clear e e2
          go_enter Try.func108, Try.ntmps108
          go_wp2_with fail
          go_ret
          exact ⟨rfl, by go_grown⟩
      · have e2 : rwEq ⟨xt, xk, xv, xs⟩ ⟨xt, yk, yv, ys⟩ = false := by simp [rwEq, hk]
        have d : (xk == yk) = false := by simpa using hk
        rw [e2]
        clear e e2
        go_enter Try.func108, Try.ntmps108
        go_wp2_with fail
        go_ret
        exact ⟨rfl, by go_grown⟩
    · have e2 : rwEq ⟨xt, xk, xv, xs⟩ ⟨yt, yk, yv, ys⟩ = false := by simp [rwEq, ht]
      have d : (xt == yt) = false := by simpa using ht
      rw [e2]
      clear e e2
      go_enter Try.func108, Try.ntmps108
      go_wp2_with fail
      go_ret
      exact ⟨rfl, by go_grown⟩

end Go.Proofs.Ytonngopnhpmjaaa

/-
  Changes between rows, plainly; risingKeys of a map told by a function.
-/
namespace Go.Proofs.Ytonngopnhpmjaaa
open Go.RowKit Go.Maps
set_option linter.unusedVariables false

def chV (x : Chg) : Value := .agg #[.bool x.was, .int .i64 x.b.t, .int .i64 x.b.k, .int .i64 x.b.v, .string x.b.s, .bool x.is, .int .i64 x.a.t, .int .i64 x.a.k, .int .i64 x.a.v, .string x.a.s]
def zR : Rw := ⟨0, 0, 0, ⟨#[]⟩⟩
/-- The row of a key. -/
def fR (rs : List Rw) (x y : Int) : Option Rw := rs.find? fun r => decide (r.t = x) && decide (r.k = y)
/-- The change at a key. -/
def chAt (bs az : List Rw) (x y : Int) : Option Chg := match fR bs x y, fR az x y with
  | none, none => none
  | some b, none => some ⟨true, b, false, zR⟩
  | none, some a => some ⟨false, zR, true, a⟩
  | some b, some a => some ⟨true, b, true, a⟩
def chF (bs az : List Rw) : Int → Int → Option Value := fun x y => (chAt bs az x y).map chV

/-- No two rows of one key. -/
def Uniq (rs : List Rw) : Prop := rs.Pairwise fun a b => ¬ (a.t = b.t ∧ a.k = b.k)

theorem fR_snoc (rs : List Rw) (r : Rw) (x y : Int) : fR (rs ++ [r]) x y = (fR rs x y).or (if r.t = x ∧ r.k = y then some r else none) := by
  unfold fR
  rw [List.find?_append]
  congr 1
  by_cases h : r.t = x ∧ r.k = y
  · simp [h]
  · rw [if_neg h]
    simp only [List.find?_cons, List.find?_nil]
    split
    · rename_i h1; simp at h1; exact absurd h1 h
    · rfl

theorem fR_new {rs : List Rw} {j : Nat} {r : Rw} (hu : Uniq rs) (hx : rs[j]? = some r) : fR (rs.take j) r.t r.k = none := by
  unfold fR
  rw [List.find?_eq_none]
  intro x hx' h
  simp at h
  obtain ⟨i, hi⟩ := List.getElem?_of_mem hx'
  have hij : i < j := by
    have := (List.getElem?_eq_some_iff.1 hi).1
    rw [List.length_take] at this
    omega
  rw [List.getElem?_take, if_pos hij] at hi
  have hil := (List.getElem?_eq_some_iff.1 hi)
  have hjl := (List.getElem?_eq_some_iff.1 hx)
  have := List.pairwise_iff_getElem.1 hu i j hil.1 hjl.1 hij
  rw [hil.2, hjl.2] at this
  exact this h

theorem chF_step1 {bs : List Rw} {j : Nat} {r : Rw} (hu : Uniq bs) (hx : bs[j]? = some r) : upd (chF (bs.take j) []) r.t r.k (some (chV ⟨true, r, false, zR⟩)) = chF (bs.take (j + 1)) [] := by
  funext x y
  unfold upd chF chAt
  rw [take_snoc hx, fR_snoc]
  have hn := fR_new hu hx
  by_cases h : x = r.t ∧ y = r.k
  · obtain ⟨rfl, rfl⟩ := h
    rw [if_pos ⟨rfl, rfl⟩, hn]
    simp [fR]
  · rw [if_neg h, if_neg (fun e => h ⟨e.1.symm, e.2.symm⟩), Option.or_none]

theorem chF_step2 {bs az : List Rw} {j : Nat} {r : Rw} (hu : Uniq az) (hx : az[j]? = some r) : upd (chF bs (az.take j)) r.t r.k (some (chV { (chAt bs (az.take j) r.t r.k).getD ⟨false, zR, false, zR⟩ with is := true, a := r })) = chF bs (az.take (j + 1)) := by
  funext x y
  unfold upd chF
  have hn := fR_new hu hx
  by_cases h : x = r.t ∧ y = r.k
  · obtain ⟨rfl, rfl⟩ := h
    rw [if_pos ⟨rfl, rfl⟩]
    unfold chAt
    rw [take_snoc hx, fR_snoc, hn]
    cases fR bs r.t r.k <;> simp
  · rw [if_neg h]
    unfold chAt
    rw [take_snoc hx, fR_snoc, if_neg (fun e => h ⟨e.1.symm, e.2.symm⟩), Option.or_none]

/-- What is left of the changes. -/
def chK (bs az : List Rw) (x y : Int) : Option Chg := (chAt bs az x y).filter fun c => !noB c
theorem chK_mem {bs az : List Rw} {x y : Int} (h : (chK bs az x y).isSome = true) : (x, y) ∈ bs.map (fun r => (r.t, r.k)) ++ az.map (fun r => (r.t, r.k)) := by
  have key : ∀ (rs : List Rw) (r : Rw), fR rs x y = some r → (x, y) ∈ rs.map (fun r => (r.t, r.k)) := fun rs r hr => by
    unfold fR at hr
    have h1 := List.mem_of_find?_eq_some hr
    have h2 := List.find?_some hr
    simp at h2
    exact List.mem_map.2 ⟨r, h1, by rw [h2.1, h2.2]⟩
  have h0 : chAt bs az x y ≠ none := by
    intro e
    unfold chK at h
    rw [e] at h
    simp at h
  cases h1 : fR bs x y with
  | some r => exact List.mem_append_left _ (key bs r h1)
  | none =>
    cases h2 : fR az x y with
    | some r => exact List.mem_append_right _ (key az r h2)
    | none => exact absurd (by unfold chAt; rw [h1, h2]) h0
theorem chF_mem {bs az : List Rw} {x y : Int} (h : (chF bs az x y).isSome = true) : (x, y) ∈ bs.map (fun r => (r.t, r.k)) ++ az.map (fun r => (r.t, r.k)) := by
  have key : ∀ (rs : List Rw) (r : Rw), fR rs x y = some r → (x, y) ∈ rs.map (fun r => (r.t, r.k)) := fun rs r hr => by
    unfold fR at hr
    have h1 := List.mem_of_find?_eq_some hr
    have h2 := List.find?_some hr
    simp at h2
    exact List.mem_map.2 ⟨r, h1, by rw [h2.1, h2.2]⟩
  have h0 : chAt bs az x y ≠ none := by
    intro e
    unfold chF at h
    rw [e] at h
    simp at h
  cases h1 : fR bs x y with
  | some r => exact List.mem_append_left _ (key bs r h1)
  | none =>
    cases h2 : fR az x y with
    | some r => exact List.mem_append_right _ (key az r h2)
    | none => exact absurd (by unfold chAt; rw [h1, h2]) h0
theorem chAt_one {bs az : List Rw} {x y : Int} {c : Chg} (h : chAt bs az x y = some c) : c.was = true ∨ c.is = true := by
  unfold chAt at h
  split at h
  · cases h
  · cases h; exact .inl rfl
  · cases h; exact .inr rfl
  · cases h; exact .inl rfl
theorem chK_nth {bs az : List Rw} {x y : Int} {c : Chg} (h : chAt bs az x y = some c) : chK bs az x y = if nthB c = true then none else some c := by
  unfold chK
  rw [h, nthB_no (chAt_one h)]
  cases hn : noB c <;> simp [Option.filter, hn]
theorem chK_sub {bs az : List Rw} {x y : Int} (h : (chK bs az x y).isSome = true) : (chF bs az x y).isSome = true := by
  unfold chK at h
  unfold chF
  cases hc : chAt bs az x y with
  | none => rw [hc] at h; simp at h
  | some c => rfl
theorem chF_some {bs az : List Rw} {x y : Int} {v : Value} (h : chF bs az x y = some v) : ∃ c, v = chV c := by
  unfold chF at h
  obtain ⟨c, _, e⟩ := Option.map_eq_some_iff.1 h
  exact ⟨c, e.symm⟩
def zCh : Chg := ⟨false, zR, false, zR⟩

/-- What risingKeys hands back, of a map told by f. -/
def RfPost (f : Int → Int → Option Value) (w : World) (e : Ending) (w' : World) : Prop :=
  ∃ a ys c, e = .returned (.slice a ys.length c) ∧ Below w.heap.size w w' ∧ SlIn k2F 2 w.heap.size w'.heap.size w' a ys ∧ Rise ys ∧ ys.Nodup ∧ ∀ x : K2, x ∈ ys ↔ (f x.x x.y).isSome = true

set_option maxHeartbeats 1000000 in
theorem risingF_any (b sz : Nat) (f : Int → Int → Option Value) (L : List (Int × Int)) (w : World) (h : MapF 147 w b f sz) (hsz : sz ≤ 100000) (hl : L.length ≤ 100000) (hL : ∀ x y, (f x y).isSome = true → (x, y) ∈ L) :
    Calls Try.prog 107 #[.map (some b)] w fun e w' => RfPost f w e w' := by
  obtain ⟨D, ho, hs, _, hh⟩ := h.has
  have hbl := ho.lt
  have hmem : ∀ x : K2, Maps.has D (k2L x) = true ↔ (f x.x x.y).isSome = true := fun x => by
    rw [show k2L x = kl x.x x.y from rfl, hh x.x x.y x.h]
  clear h hh
  go_enter Try.func107, Try.ntmps107
  go_wp2_with fail
  refine (keysC_box b _).mono ?_
  rintro e w1 ⟨rfl, g1, hc⟩
  have ho1 : w1.ownsMap Try.prog 147 hR b sz D := by
    obtain ⟨es, clock, hb, Ft, hs', hD⟩ := ho
    exact ⟨es, clock, (g1.block b hbl).trans hb, Ft, hs', hD⟩
  have hcl := World.block_lt_of_cell? w1 _ hc
  have hcon := sorted_any 171 #[.pointer (some ⟨w.heap.size, 0, none⟩)] (fun ss => ss.Nodup ∧ ∀ x, x ∈ ss ↔ Maps.has D (k2L x) = true) (Maps.size D) w1 (by omega)
    (enters_of Try.func171 (by kernel_rfl) rfl)
    (fun W hW => keysC_stops Fence.wide 9 trivial rfl (by omega) w.heap.size b sz D W (Nat.lt_of_lt_of_le hcl hW.size) ((hW.cell hcl).trans hc) (by
      obtain ⟨es, clock, hb, Ft, hs', hD⟩ := ho1
      exact ⟨es, clock, (hW.block b (by have := g1.size; omega)).trans hb, Ft, hs', hD⟩))
    (fun ss hss => by
      have h1 := nodup_le (ss.map k2P) L (k2P_nodup hss.1) (fun q hq => by
        obtain ⟨x, hx, rfl⟩ := List.mem_map.1 hq
        exact hL _ _ ((hmem x).1 ((hss.2 x).1 hx)))
      simp only [List.length_map] at h1
      omega)
  go_wp2_with (go_at_call 147; refine hcon.mono ?_)
  rintro e w2 ⟨a, ys, c, ss, rfl, hss, hp, hr, g2, hi2⟩
  go_wp2_with fail
  go_ret
  have hs1 := g1.size
  refine ⟨a, ys, c, rfl, g1.trans (g2.mono hs1), hi2.mono hs1 (Nat.le_refl _), hr, hp.nodup_iff.2 hss.1, fun x => ?_⟩
  rw [hp.mem_iff, hss.2, hmem]

end Go.Proofs.Ytonngopnhpmjaaa
