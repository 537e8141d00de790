/-
  Pages marked: markByteSS; the results of RowsIn compared, marked, looked through.
-/
import Derived.Test.YtcadkclppejdgaaRMks
import Derived.Test.YtcadkclppejdgaaROpg

namespace Go.Proofs.Ytcadkclppejdgaa
open Go.RowKit
set_option linter.unusedVariables false

theorem Turned.widen {lo hi lo' hi' : Nat} {w w' : World} (h : Turned lo hi w w') (h1 : lo' ≤ lo) (h2 : hi ≤ hi') : Turned lo' hi' w w' := ⟨h.os, h.tape, h.output, h.size, fun k hk hn => h.block k hk (by omega)⟩

set_option maxHeartbeats 1000000 in
theorem markByteSS_any (g n c hi : Nat) (ps : List (List Int)) (F : Nat → Nat) (w : World) (hn : ps.length = n) (hm : n ≤ 1048576) (hp : PgOk ps) (hP : PartP w g n n ps F) (hhi : ∀ i zs, i < n → ps[i]? = some zs → zs ≠ [] → F i < hi) :
    Calls Try.prog 17 #[.slice (some ⟨g, 0, none⟩) n c, .int .i64 1] w fun e w' => ∃ r : Int, e = .returned (.int .i64 r) ∧ 0 ≤ r ∧ Turned (g + 1) hi w w' := by
  have HN : Hid (ps.length = n) := hn
  have HP : Hid (PgOk ps) := hp
  have HPt : Hid (PartP w g n n ps F) := hP
  have HHi : Hid (∀ i zs, i < n → ps[i]? = some zs → zs ≠ [] → F i < hi) := hhi
  clear hn hp hP hhi
  go_enter Try.func17, Try.ntmps17
  go_wp2_with fail
  go_loopw [5, 1] (fun i kk wr => ∃ (j : Nat) (r : Int), j ≤ n ∧ i = .int .i64 j ∧ kk = .int .i64 r ∧ 0 ≤ r ∧ r ≤ 1 + 1048576 * j ∧ Turned (g + 1) hi w wr ∧ Hid (∀ i zs, j ≤ i → ps[i]? = some zs → BytesIn (F i) (F i + 1) wr (some ⟨F i, 0, none⟩) zs)) (fun i _ _ => n - (intOf i).toNat)
  case atStart => exact ⟨0, 1, Nat.zero_le _, rfl, rfl, by omega, by omega, Turned.refl _ _ _, fun i zs _ hz => (HPt.out.c i zs (by rw [← HN.out]; exact (List.getElem?_eq_some_iff.1 hz).1) hz).2⟩
  case round =>
    obtain ⟨j, r, hj, rfl, rfl, hr0, hr1, ht, hB⟩ := hrel
    by_cases hlt : j < n
    · obtain ⟨zs, hzs⟩ := at_lt' (rs := ps) (i := j) (by rw [HN.out]; exact hlt)
      have hz1 := (HP.out zs (List.mem_of_getElem? hzs)).1
      have c0 := ht.cell (HPt.out.c j zs hlt hzs).1 (.inl (by simp))
      have hb := hB.out j zs (Nat.le_refl _) hzs
      have hFg := HPt.out.fr j hlt
      have hjn : (j : Int) < (n : Int) := by omega
      have hrb : r ≤ 140737488351232 := by omega
      by_cases hne : zs = []
      · subst hne
        have hb0 : BytesIn 0 0 wr (some ⟨F j, 0, none⟩) [] := .inl rfl
        go_wp2_with fail
        refine (markByteS_any _ 0 0 [] 0 0 r _ rfl (by omega) hr0 hrb hb0).mono ?_
        rintro e w2 ⟨rfl, t2, _⟩
        have HB2 : Hid (∀ i zs, j + 1 ≤ i → ps[i]? = some zs → BytesIn (F i) (F i + 1) w2 (some ⟨F i, 0, none⟩) zs) := fun i zs hi hz => (hB.out i zs (by omega) hz).turned t2 (.inr (Nat.zero_le _))
        have ht2 := ht.trans (Turned.widen (lo' := g + 1) (hi' := hi) ⟨t2.os, t2.tape, t2.output, t2.size, fun k hk _ => t2.block k hk (by omega)⟩ (Nat.le_refl _) (Nat.le_refl _))
        clear t2 c0 hb hb0 ht hB
        go_wp2_with fail
        go_roundw
        case rel => exact ⟨j + 1, r, by omega, by go_num, by simp, hr0, by omega, ht2, HB2⟩
        case measure => simp [intOf]; omega
      · have hFl := HHi.out j zs hlt hzs hne
        obtain ⟨zl, hzl⟩ : ∃ zl, zl = zs.length := ⟨_, rfl⟩
        rw [← hzl] at c0
        have hzl2 : zl ≤ 1048576 := by rw [hzl]; exact hz1
        have HZ : Hid (zs.length = zl) := hzl.symm
        clear hzl hz1
        go_wp2_with fail
        refine (markByteS_any _ (F j) (F j + 1) zs zl zl r _ HZ.out (by omega) hr0 hrb hb).mono ?_
        rintro e w2 ⟨rfl, t2, _⟩
        have HB2 : Hid (∀ i zs, j + 1 ≤ i → ps[i]? = some zs → BytesIn (F i) (F i + 1) w2 (some ⟨F i, 0, none⟩) zs) := fun i ys hi hz => by
          have hil : i < n := by rw [← HN.out]; exact (List.getElem?_eq_some_iff.1 hz).1
          have := HPt.out.ne j i zs (by omega) hil hzs hne
          exact (hB.out i ys (by omega) hz).turned t2 (.inr (by omega))
        have ht2 := ht.trans (t2.widen (lo' := g + 1) (hi' := hi) (by omega) (by omega))
        clear t2 c0 hb ht hB
        go_wp2_with fail
        go_roundw
        case rel => exact ⟨j + 1, r + zl, by omega, by go_num, rfl, by omega, by omega, ht2, HB2⟩
        case measure => simp [intOf]; omega
    · have e : j = n := by omega
      subst e
      go_wp2_with fail
      go_ret
      exact ⟨r, rfl, hr0, ht⟩

/-- Block b holds an answer of RowsIn. -/
structure RsC (w : World) (b : Nat) (q : Int) (a : Option Addr) (n c : Nat) : Prop where
  c0 : w.cell? ⟨b, 0, none⟩ = some (.int .i64 q)
  c1 : w.cell? ⟨b, 1, none⟩ = some (.slice a n c)
theorem RsC.lt {w : World} {b : Nat} {q : Int} {a : Option Addr} {n c : Nat} (h : RsC w b q a n c) : b < w.heap.size := World.block_lt_of_cell? w _ h.c0
theorem RsC.turned {w w' : World} {b : Nat} {q : Int} {a : Option Addr} {n c lo hi : Nat} (h : RsC w b q a n c) (ht : Turned lo hi w w') (hn : b < lo ∨ hi ≤ b) : RsC w' b q a n c := ⟨ht.cell h.c0 hn, ht.cell h.c1 hn⟩
theorem RsC.below {w w' : World} {b : Nat} {q : Int} {a : Option Addr} {n c : Nat} (h : RsC w b q a n c) (hb : Below w.heap.size w w') : RsC w' b q a n c := h.turned (Turned.ofBelow (lo := 0) (hi := 0) hb) (.inr (Nat.zero_le _))

set_option maxHeartbeats 1000000 in
theorem eqRowsResult_same (q : Int) (a a' : Option Addr) (rs : List Rw) (n c d : Nat) (w : World) (hn : rs.length = n) (hm : n ≤ 1000) (hx : Rs rwE 4 w a rs) (hy : Rs rwE 4 w a' rs) :
    Calls Try.prog 16 #[.agg #[.int .i64 q, .slice a n c], .agg #[.int .i64 q, .slice a' n d]] w fun e w' => e = .returned (.bool true) ∧ Below w.heap.size w w' := by
  have gX : Below w.heap.size w ((w.alloc (.cells #[.int .i64 q, .slice a n c] 30)).alloc (.cells #[.int .i64 q, .slice a' n d] 30)) := by go_grown
  have hcon := eqRowS_same a a' rs n c d _ hn (by omega) (hx.below gX (Nat.le_refl _)) (hy.below gX (Nat.le_refl _))
  clear hx hy hn
  go_enter Try.func16, Try.ntmps16
  go_wp2_with (go_at_call 28; refine hcon.mono ?_; rintro e w' ⟨rfl, g⟩)
  go_ret
  exact ⟨rfl, gX.trans (g.mono gX.size)⟩

set_option maxHeartbeats 1000000 in
theorem markRowsResult_any (q : Int) (a : Option Addr) (lo hi : Nat) (rs : List Rw) (n c : Nat) (w : World) (hn : rs.length = n) (hm : n ≤ 1000) (ha : SlIn rwE 4 lo hi w a rs) :
    Calls Try.prog 18 #[.agg #[.int .i64 q, .slice a n c], .int .i64 1] w fun e w' => e = .returned (.int .i64 ((1 + 4 * n : Nat) : Int)) ∧ Turned lo hi w w' ∧ SlIn rwE 4 lo hi w' a ((List.range n).map (mkR 1)) := by
  have gX : Below w.heap.size w (w.alloc (.cells #[.int .i64 q, .slice a n c] 30)) := by go_grown
  have hcon := markRowS_any a lo hi rs n c 1 _ hn hm (by omega) (by omega) (ha.below gX)
  have tX : Turned lo hi w (w.alloc (.cells #[.int .i64 q, .slice a n c] 30)) := Turned.ofBelow gX
  clear ha hn gX
  obtain ⟨r, hr⟩ : ∃ r : Int, r = ((1 + 4 * n : Nat) : Int) := ⟨_, rfl⟩
  rw [← hr] at hcon ⊢
  clear hr
  go_enter Try.func18, Try.ntmps18
  go_wp2_with (go_at_call 29; refine hcon.mono ?_; rintro e w' ⟨rfl, t, h⟩)
  go_ret
  exact ⟨rfl, tX.trans t, h⟩

set_option maxHeartbeats 1000000 in
theorem heldRowsResult_any (q : Int) (a : Option Addr) (n c : Nat) (w : World) (hm : n ≤ 1000) (ha : Rs rwE 4 w a ((List.range n).map (mkR 1))) :
    Calls Try.prog 19 #[.agg #[.int .i64 q, .slice a n c], .int .i64 1] w fun e w' => e = .returned (.int .i64 ((1 + 4 * n : Nat) : Int)) ∧ Below w.heap.size w w' := by
  have gX : Below w.heap.size w (w.alloc (.cells #[.int .i64 q, .slice a n c] 30)) := by go_grown
  have hcon := heldRowS_any a n c 1 _ hm (by omega) (by omega) (ha.below gX (Nat.le_refl _))
  clear ha
  obtain ⟨r, hr⟩ : ∃ r : Int, r = ((1 + 4 * n : Nat) : Int) := ⟨_, rfl⟩
  have hr0 : ¬ r < 0 := by omega
  rw [← hr] at hcon ⊢
  clear hr
  go_enter Try.func19, Try.ntmps19
  go_wp2_with (go_at_call 48; refine hcon.mono ?_; rintro e w' ⟨rfl, g⟩)
  go_ret
  exact ⟨rfl, gX.trans (g.mono gX.size)⟩

end Go.Proofs.Ytcadkclppejdgaa
