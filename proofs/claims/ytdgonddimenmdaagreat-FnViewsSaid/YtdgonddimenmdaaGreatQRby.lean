/-
  The program's rowsByKey; the model's l6At.
-/
import Derived.Test.YtdgonddimenmdaaGreatQLpt
import Derived.Test.YtdgonddimenmdaaGreatQDraw
import Derived.Test.YtdgonddimenmdaaGreatQCopy
import Derived.Test.YtdgonddimenmdaaGreatQLpq
import Derived.Test.YtdgonddimenmdaaGreatQKec

namespace Go.Proofs.YtdgonddimenmdaaGreat
open Go.RowKit Go.Maps
set_option linter.unusedVariables false

def rwK (r : Rw) : (Int × Int) × Value := ((r.t, r.k), rwA r)
/-- Where the row of that key is; none: -1. -/
def AtP (rs : List Rw) (t k : Int) (r : Int) : Prop := (r = -1 ∧ ∀ x ∈ rs, ¬ (x.t = t ∧ x.k = k)) ∨ ∃ (i : Nat) (x : Rw), r = i ∧ rs[i]? = some x ∧ x.t = t ∧ x.k = k

set_option maxHeartbeats 1000000 in
theorem l6At_any (a : Option Addr) (rs : List Rw) (n c : Nat) (t k : Int) (w : World) (hn : rs.length = n) (hm : n ≤ 100000) (hr : Rs rwE 4 w a rs) :
    Calls Tryz.prog 86 #[.slice a n c, .int .i64 t, .int .i64 k] w fun e w' => ∃ r : Int, e = .returned (.int .i64 r) ∧ AtP rs t k r ∧ w' = w := by
  have HN : Hid (rs.length = n) := hn
  have HR : Hid (Rs rwE 4 w a rs) := hr
  clear hn hr
  go_enter Tryz.func86, Tryz.ntmps86
  go_wp2_with fail
  go_loopw [7] (fun i wr => ∃ j : Nat, j ≤ n ∧ i = .int .i64 j ∧ Hid (∀ x ∈ rs.take j, ¬ (x.t = t ∧ x.k = k)) ∧ wr = w) (fun i _ => n - (intOf i).toNat)
  case atStart => exact ⟨0, Nat.zero_le _, rfl, by intro x hx; simp at hx, rfl⟩
  case round =>
    obtain ⟨j, hj, rfl, hf, rfl⟩ := hrel
    by_cases hlt : j < n
    · obtain ⟨x, hx⟩ := at_lt (rs := rs) (i := j) (by rw [HN.out]; exact hlt)
      obtain ⟨b, off, rfl, X'⟩ := HR.out.row hx
      have hjn : (j : Int) < (n : Int) := by omega
      have HX : Hid (rs[j]? = some x) := hx
      have HF : Hid (¬ (x.t = t ∧ x.k = k) → ∀ y ∈ rs.take (j + 1), ¬ (y.t = t ∧ y.k = k)) := fun hne y hy => by
        rw [take_snoc hx] at hy
        rcases List.mem_append.1 hy with h | h
        · exact hf.out y h
        · simp at h; subst h; exact hne
      clear hx hf
      obtain ⟨xt, xk, xv, xs0⟩ := x
      obtain ⟨x0, x1, x2, x3⟩ := X'
      dsimp only at x0 x1 x2 x3
      by_cases h1 : xt = t
      · subst h1
        by_cases h2 : xk = k
        · subst h2
          go_wp2_with fail
          go_ret
          exact ⟨j, rfl, .inr ⟨j, _, rfl, HX.out, rfl, rfl⟩, rfl⟩
        · have HF2 : Hid (∀ y ∈ rs.take (j + 1), ¬ (y.t = xt ∧ y.k = k)) := HF.out (fun h => h2 h.2)
          have d2 : (xk == k) = false := by simpa using h2
          go_wp2_with fail
          go_roundw
          case rel => exact ⟨j + 1, by omega, by go_num, HF2, by simp⟩
          case measure => simp [intOf]; omega
      · have HF2 : Hid (∀ y ∈ rs.take (j + 1), ¬ (y.t = t ∧ y.k = k)) := HF.out (fun h => h1 h.1)
        have d1 : (xt == t) = false := by simpa using h1
        go_wp2_with fail
        go_roundw
        case rel => exact ⟨j + 1, by omega, by go_num, HF2, by simp⟩
        case measure => simp [intOf]; omega
    · have HF2 : Hid (∀ x ∈ rs, ¬ (x.t = t ∧ x.k = k)) := by
        have := hf.out
        rw [List.take_of_length_le (by rw [HN.out]; omega)] at this
        exact this
      have hjn : ¬ (j : Int) < (n : Int) := by omega
      clear hf
      go_wp2_with fail
      go_ret
      exact ⟨-1, rfl, .inl ⟨rfl, HF2.out⟩, rfl⟩

end Go.Proofs.YtdgonddimenmdaaGreat

/-
  The draws of rows: l1Chance, l6DrawRows, l6BentRows, l8Rows, l8Bent.
-/
namespace Go.Proofs.YtdgonddimenmdaaGreat
open Go.RowKit
set_option linter.unusedVariables false

theorem ownsRow_src {w w' : World} {lo hi base e size k : Nat} {v : Value} {xs : List Value} (h : w.ownsRow base e size v k xs) (ht : Turned lo hi w w') (hb : hi ≤ base) : w'.ownsRow base e size v k xs := by
  refine ⟨h.1, ?_⟩
  rcases h.2 with h0 | ⟨g, cap, cur, hv, hg0, hg, hr⟩
  · exact .inl h0
  · exact .inr ⟨g, cap, cur, hv, hg0, (ht.block g (Array.getElem?_eq_some_iff.1 hg).1 (by omega)).trans hg, hr⟩
theorem RowC.src {w w' : World} {lo hi b o : Nat} {r : Rw} (h : RowC w b o r) (ht : Turned lo hi w w') (hb : hi ≤ b) : RowC w' b o r :=
  ⟨ht.cell h.c0 (.inr hb), ht.cell h.c1 (.inr hb), ht.cell h.c2 (.inr hb), ht.cell h.c3 (.inr hb)⟩

theorem Turned.low {lo hi : Nat} {w w1 w2 : World} (h : Turned lo hi w w1) (hb : Below w.heap.size w1 w2) : Turned lo hi w w2 :=
  ⟨hb.os.trans h.os, hb.tape.trans h.tape, hb.output.trans h.output, Nat.le_trans h.size hb.size, fun k hk hn => (hb.block k hk).trans (h.block k hk hn)⟩

/-- A row within the bounds of a cell. -/
def okR (r : Rw) : Prop := (0 ≤ r.t ∧ r.t ≤ 3) ∧ (1 ≤ r.k ∧ r.k ≤ 99) ∧ (0 ≤ r.v ∧ r.v ≤ 999) ∧ r.s.size ≤ 8

/-- Rows drawn: at most m, their texts short, in a row of their own. -/
def RowsG (base m : Nat) (w : World) (v : Value) : Prop := ∃ g cap rs, v = .slice (some ⟨g, 0, none⟩) rs.length cap ∧ rs.length ≤ m ∧ (∀ r ∈ rs, okR r) ∧ w.ownsRow base 32 4 (.slice (some ⟨g, 0, none⟩) rs.length cap) rs.length (flat rwE rs)
/-- What a draw of rows hands back; d: how many draws at most. -/
def RdPost (b : Nat) (a : Option Addr) (n c : Nat) (zs : List Int) (i : Int) (d : Int) (m : Nat) (w : World) (e : Ending) (w' : World) : Prop :=
  (∃ v, e = .returned v ∧ RowsG w.heap.size m w' v) ∧ Turned b (b + 1) w w' ∧ ∃ j, j ≤ i + d ∧ SrcAt w' b a n c zs j

theorem RowsG.src {base m lo hi : Nat} {w w' : World} {v : Value} (h : RowsG base m w v) (ht : Turned lo hi w w') (hb : hi ≤ base) : RowsG base m w' v := by
  obtain ⟨g, cap, rs, rfl, h1, h2, h3⟩ := h
  exact ⟨g, cap, rs, rfl, h1, h2, ownsRow_src h3 ht hb⟩
theorem RowsG.below {base m : Nat} {w w' : World} {v : Value} (h : RowsG base m w v) (hb : Below w.heap.size w w') : RowsG base m w' v := by
  obtain ⟨g, cap, rs, rfl, h1, h2, h3⟩ := h
  exact ⟨g, cap, rs, rfl, h1, h2, ownsRow_below h3 hb⟩

set_option maxRecDepth 20000 in
set_option maxHeartbeats 4000000 in
theorem l6DrawRows_any (b : Nat) (a : Option Addr) (n c : Nat) (zs : List Int) (i : Int) (w : World) (h : SrcAt w b a n c zs i) (i9 : i ≤ 700) :
    Calls Tryz.prog 58 #[.pointer (some ⟨b, 0, none⟩)] w fun e w' => RdPost b a n c zs i 31 6 w e w' := by
  have hlb := h.lt
  have hi0 := h.i0
  have gX : Below w.heap.size w (w.alloc (.cells #[] 32)) := by go_grown
  have hL := ownsRow_lit0 w 32 4
  have hS := h.below gX
  have tX : Turned b (b + 1) w (w.alloc (.cells #[] 32)) := Turned.ofBelow gX
  clear h gX
  go_enter Tryz.func58, Tryz.ntmps58
  go_wp2_with fail
  refine (l1Next_any b a n c zs i 7 _ hS (by omega) (by omega) (by omega)).mono ?_
  rintro e w1 ⟨⟨r, rfl, hr0, hr1⟩, t1, hS1⟩
  have hL1 := ownsRow_src hL t1 (by omega)
  have T1 := tX.trans t1
  clear hL hS tX t1
  obtain ⟨k0, rfl⟩ : ∃ k0 : Nat, r = k0 := ⟨r.toNat, by omega⟩
  go_wp2_with fail
  go_loopw [4, 3] (fun k v wr => ∃ kk : Nat, kk ≤ 6 ∧ k = .int .i64 kk ∧ Turned b (b + 1) w wr ∧ (∃ j, j ≤ i + 1 + 5 * (6 - (kk : Int)) ∧ SrcAt wr b a n c zs j) ∧ ∃ g cap rs, v = .slice (some ⟨g, 0, none⟩) rs.length cap ∧ rs.length + kk ≤ 6 ∧ (∀ r ∈ rs, okR r) ∧ wr.ownsRow w.heap.size 32 4 (.slice (some ⟨g, 0, none⟩) rs.length cap) rs.length (flat rwE rs)) (fun k _ _ => (intOf k).toNat)
  case atStart => exact ⟨k0, by omega, rfl, T1, ⟨i + 1, by omega, hS1⟩, _, _, [], rfl, by simp; omega, by simp, hL1⟩
  case round =>
    clear hL1 T1 hS1
    obtain ⟨kk, hkk, rfl, T, ⟨j, hj, hS⟩, g, cap, rs, rfl, hlen, hss, ho⟩ := hrel
    have hj0 := hS.i0
    by_cases hk0 : 0 < kk
    · have hk1 : (0 : Int) < (kk : Int) := by omega
      go_wp2_with fail
      refine (l1Draw_any b a n c zs j _ hS (by omega)).mono ?_
      rintro e w2 ⟨⟨xt, xk, xv, xs, rfl, hxt, hxk, hxv, hxs⟩, t2, hS2⟩
      have HX : Hid (okR ⟨xt, xk, xv, xs⟩) := ⟨hxt, hxk, hxv, hxs⟩
      clear hxt hxk hxv
      have T := T.trans t2
      have ho := ownsRow_src ho t2 (by omega)
      have hsz2 := T.size
      clear t2 hS
      go_upto_region 6 with (fail)
      generalize hY : World.alloc _ _ = Y
      have gY : Below w2.heap.size w2 Y := by rw [← hY]; go_grown
      have C : RowC Y w2.heap.size 0 ⟨xt, xk, xv, xs⟩ := by rw [← hY]; exact ⟨by simp [go_sem], by simp [go_sem], by simp [go_sem], by simp [go_sem]⟩
      have hS := hS2.below gY
      have T := T.trans (Turned.ofBelow gY)
      have ho := ownsRow_below ho gY
      clear hY gY hS2
      generalize w2.heap.size = cb at C hsz2 ⊢
      obtain ⟨a', c', e', hcap, hin, _⟩ := SlIn.ofRow rwE_len ho
      cases e'
      have hR := hin.reads
      have hAt := l6At_any (some ⟨g, 0, none⟩) rs rs.length cap xt xk Y rfl (by omega) hR
      obtain ⟨x0, x1, x2, x3⟩ := C
      dsimp only at x0 x1 x2 x3
      have HP : Hid (∀ V, Below Y.heap.size Y V → Calls Tryz.prog 50 #[.slice (some ⟨g, 0, none⟩) rs.length cap, .agg #[.int .i64 xt, .int .i64 xk, .int .i64 xv, .string xs]] V fun e w' => _) := fun V hV => l6Put_any g rs.length cap rs xt xk xv xs V rfl (by omega) hcap (hR.below hV (Nat.le_refl _))
      have HS : Hid (∀ r ∈ rs, okR r) := hss
      obtain ⟨rn, hrn⟩ : ∃ rn, rn = rs.length := ⟨_, rfl⟩
      have HRN : Hid (rs.length = rn) := hrn.symm
      rw [← hrn] at hAt HP ho hlen hcap ⊢
      clear hrn hss hin hR
      go_wp2_with fail
      refine hAt.mono ?_
      rintro e Y2 ⟨r2, rfl, _, hw⟩
      rw [hw]
      clear hw Y2 hAt
      by_cases h2 : r2 < 0
      · go_wp2_with fail
        refine (HP.out Y (Below.refl _ _)).mono ?_
        rintro e Y3 ⟨g8, c8, new, rfl, hPut, b8, o8⟩
        have hnl : new.length = rn + 1 := by rw [hPut.perm.length_eq, List.length_cons, HRN.out]
        have hns : ∀ r ∈ new, okR r := fun r hr => by
          rcases List.mem_cons.1 (hPut.perm.mem_iff.1 hr) with h | h
          · rw [h]; exact HX.out
          · exact HS.out r h
        have HNL : Hid (new.length = rn + 1) := hnl
        clear hnl
        have hS := hS.below b8
        have hTs := T.size
        have T := T.trans (Turned.ofBelow b8)
        have o8 := ownsRow_base o8 hTs
        clear hPut b8 HP x0 x1 x2 x3 ho
        go_wp2_with fail
        go_roundw
        case rel => exact ⟨kk - 1, by omega, by go_num, T, ⟨j + 5, by omega, hS⟩, g8, c8, new, rfl, by rw [HNL.out]; omega, hns, o8⟩
        case measure => simp [intOf]; omega
      · clear HP
        go_wp2_with fail
        go_roundw
        case rel => exact ⟨kk - 1, by omega, by go_num, T, ⟨j + 5, by omega, hS⟩, g, cap, rs, by rw [HRN.out], by rw [HRN.out]; omega, HS.out, by rw [HRN.out]; exact ho⟩
        case measure => simp [intOf]; omega
    · have hk : kk = 0 := by omega
      subst hk
      go_wp2_with fail
      go_ret
      exact ⟨⟨_, rfl, g, cap, rs, rfl, by omega, hss, ho⟩, T, j, by omega, hS⟩

end Go.Proofs.YtdgonddimenmdaaGreat

/-
  A row's cell anywhere in memory (l1Cell); l2Put once more, with the bounds of the slot.
-/
namespace Go.Proofs.YtdgonddimenmdaaGreat
open Go.RowKit
set_option linter.unusedVariables false
set_option maxRecDepth 20000

set_option maxHeartbeats 1000000 in
theorem l1CellO_any (f t k v : Int) (s : ByteArray) (b o : Nat) (w : World) (f0 : 0 ≤ f) (f1 : f ≤ 2) (t0 : 0 ≤ t) (t1 : t ≤ 3) (k0 : 1 ≤ k) (k1 : k ≤ 99) (v0 : 0 ≤ v) (v1 : v ≤ 999) (hs : s.size ≤ 8) (h : RowC w b o ⟨t, k, v, s⟩) :
    Calls Tryz.prog 37 #[.int .i64 f, .pointer (some ⟨b, o, none⟩)] w fun e w' =>
      ∃ g c, e = .returned (.slice (some ⟨g, 0, none⟩) (6 + s.size) c) ∧ 6 + s.size ≤ c ∧ Below w.heap.size w w' ∧ BytesIn w.heap.size w'.heap.size w' (some ⟨g, 0, none⟩) (cellBytes f t k v s) := by
  obtain ⟨i0, hi, hz0, hz1, hz2⟩ := info5
  obtain ⟨c0, c1, c2, c3⟩ := h
  dsimp only at c0 c1 c2 c3
  have hlt : b < w.heap.size := World.block_lt_of_cell? w _ c0
  have kc := fun (w : World) (s : ByteArray) => run_bytes_of_string (P := Tryz.prog) w 9 22 5 s Tryz.underlying9 Tryz.underlying22 Tryz.underlying5
  go_enter Tryz.func37, Tryz.ntmps37
  go_wp2_with fail
  go_region_held (fun w' => w'.cell? ⟨b, o, none⟩ = some (.int .i64 t) ∧ w'.cell? ⟨b, o + 1, none⟩ = some (.int .i64 k) ∧ w'.cell? ⟨b, o + 2, none⟩ = some (.int .i64 v) ∧ w'.cell? ⟨b, o + 3, none⟩ = some (.string s)) (go_keep) (fail)
  go_wp2_with (at_builtin; go_must (refine wpList_append_own _ rfl _ _ 22 rfl w.heap.size 5 i0 (.int .u8 0) 1 1 Tryz.underlying22 hi hz0 hz1 hz2 rfl (by decide) (.slice (some ⟨w.heap.size, 0, none⟩) 6 6) 6 [.int .u8 f, .int .u8 t, .int .u8 k, .int .u8 (v / 256), .int .u8 (v % 256), .int .u8 s.size] rfl ?c1 ⟨w.heap.size + 1, 0, none⟩ s.size _ (Lib.strCells s) rfl ?c2 ?c3 ?c4 ?c5 ?c6 ?c7 ?_))
  case c1 =>
    repeat (refine ownsRow_drew ?_)
    exact World.ownsRow.alloc (World.ownsRow_lit (base := w.heap.size) (e := 5) (size := 1) w #[.int .u8 f, .int .u8 t, .int .u8 k, .int .u8 (v / 256), .int .u8 (v % 256), .int .u8 s.size] 6 (Nat.le_refl _) (by unfold maxLen; omega) rfl) _
  case c2 => rw [Lib.strCells_length, Nat.mul_one]
  case c3 =>
    intro j u hj
    exact bytesRow_cell _ s _ _ _ _ (by simp) j u hj
  case c4 => intro u hu; simp [Lib.strCells] at hu; obtain ⟨x, _, rfl⟩ := hu; rfl
  case c5 => unfold maxLen; omega
  case c6 => omega
  case c7 => simp; omega
  intro v' w' hown hgrow _
  obtain ⟨g, cap, hv⟩ := Joins.ownsRow_form hown (by omega)
  subst hv
  have hcap := ownsRow_cap hown
  have hB : Below w.heap.size w w' := Below.grown (B := w.heap.size) (by go_grown) hgrow (by simp; omega) (fun k hk => by simp [Value.ownBlock] at hk; omega)
  have hY : BytesIn w.heap.size w'.heap.size w' (some ⟨g, 0, none⟩) (cellBytes f t k v s) := by
    refine bytesIn_owns (e := 5) (n := 6 + s.size) (cap := cap) ?_
    rw [show (cellBytes f t k v s).map (Value.int .u8) = _ from by rw [cellBytes, List.map_append, ← strCells_ints]]
    exact hown
  clear hown hgrow
  go_wp2_with fail
  go_ret
  exact ⟨g, cap, rfl, hcap, hB, hY⟩

set_option maxHeartbeats 4000000 in
theorem l2Put_of (a : Option Addr) (zs cs : List Int) (c sb so n d : Nat) (w : World) (hr : Reads w a zs) (h : Fine zs) (hn : cs.length = n) (h1 : 1 ≤ n) (h64 : n ≤ 64) (hb : ∀ z ∈ cs, 0 ≤ z ∧ z ≤ 255) (hcell : Reads w (some ⟨sb, so, none⟩) cs) :
    Calls Tryz.prog 34 #[.slice a 64 c, .slice (some ⟨sb, so, none⟩) n d] w fun e w' => Below w.heap.size w w' ∧ ((∃ q : Int, q ≠ 0 ∧ e = .returned (.tuple #[.slice none 0 0, .int .i64 0, .int .i64 q])) ∨ ∃ g dd ys, ∃ s : Int, e = .returned (.tuple #[.slice (some ⟨g, 0, none⟩) 64 dd, .int .i64 s, .int .i64 0]) ∧ 64 ≤ dd ∧ w.heap.size ≤ g ∧ Sl64 w' g ys ∧ Fine ys ∧ 0 ≤ s ∧ s ≤ 15) := by
  by_cases hs : putS zs = nb zs 0 ∧ 16 ≤ nb zs 0
  · refine (l2Put_many a zs c _ n d w hr h hs).mono ?_
    rintro e w' ⟨rfl, rfl⟩
    exact ⟨Below.refl _ _, .inl ⟨2, by decide, rfl⟩⟩
  · by_cases hfull : freeN zs < n + putMore zs ∨ nb zs 1 < n + (2 + 2 * putM zs)
    · refine (l2Put_full a zs c _ n d w hr h (by omega) hs hfull).mono ?_
      rintro e w' ⟨rfl, rfl⟩
      exact ⟨Below.refl _ _, .inl ⟨_, by split <;> decide, rfl⟩⟩
    · have hq : putQ zs n = 0 := by
        unfold putQ
        rw [if_neg hs, if_neg (by omega), if_neg (by omega)]
      have hF := fine_put h hb (by omega) (by rw [hn]; exact hq)
      refine (l2Put_cap a zs cs c sb so n d w hr h hn h1 hcell hq).mono ?_
      rintro e w' ⟨g, dd, rfl, hdd, gB, hgw, hA⟩
      exact ⟨gB, .inr ⟨g, dd, _, _, rfl, hdd, hgw, hA, hF, by omega, by have := putS_le zs; have := h.few; omega⟩⟩

end Go.Proofs.YtdgonddimenmdaaGreat

/-
  The contract of the model's l2Drop: a page without a fault.
-/
namespace Go.Proofs.YtdgonddimenmdaaGreat
set_option maxRecDepth 20000
open Go.RowKit
set_option linter.unusedVariables false

/-- A page with slot s emptied, that tells m slots. -/
def drP (zs : List Int) (s m : Nat) : List Int := (spanSet zs s 0 0).set 0 (m : Int)

theorem drP_ln {zs : List Int} (h : IsPg zs) (s m j : Nat) (hs : s < 16) : ln (drP zs s m) j = if j = s then 0 else ln zs j := by
  have hlen : (spanSet zs s 0 0).length = 64 := by simp [spanSet, h.len]
  have B : byt (drP zs s m) (3 + 2 * j) = if j = s then ((0 : Nat) : Int) else byt zs (3 + 2 * j) := by
    unfold drP
    rw [byt_set _ _ _ _ (by omega), byt_span _ _ _ _ _ (by rw [h.len]; omega), if_neg (by omega)]
    by_cases e : j = s
    · subst e; rw [if_pos rfl, if_pos rfl]
    · rw [if_neg (by omega), if_neg (by omega), if_neg e]
  split
  · rename_i e
    rw [if_pos e] at B
    exact nb_nat B
  · rename_i e
    rw [if_neg e] at B
    exact nb_of_byt B

theorem drP_start {zs : List Int} (h : IsPg zs) (s : Nat) (hs : s < 16) : drP zs s (nb zs 0) = spanSet zs s 0 0 := by
  have hlen : (spanSet zs s 0 0).length = 64 := by simp [spanSet, h.len]
  unfold drP
  apply byt_ext (by simp)
  intro i hi
  rw [byt_set _ _ _ _ (by omega)]
  split
  · rename_i e
    rw [e, byt_span _ _ _ _ _ (by rw [h.len]; omega), if_neg (by omega), if_neg (by omega), nb_byt h]
  · rfl

theorem drP_set (zs : List Int) (s m j : Nat) : (drP zs s m).set 0 (j : Int) = drP zs s j := by simp [drP]

theorem isPg_drP {zs : List Int} (h : IsPg zs) (s m : Nat) (hm : m ≤ 16) : IsPg (drP zs s m) := isPg_set (isPg_span h s 0 0 (by omega) (by omega)) 0 m (by omega)

theorem drP_head {zs : List Int} (h : IsPg zs) (s m : Nat) : (drP zs s m).getD 0 0 = (m : Int) := by
  have hlen : (spanSet zs s 0 0).length = 64 := by simp [spanSet, h.len]
  have : byt (drP zs s m) 0 = (m : Int) := by unfold drP; rw [byt_set _ _ _ _ (by omega), if_pos rfl]
  exact this

def headOf (w : World) (g : Nat) : Nat := match w.cell? ⟨g, 0, none⟩ with | some (.int _ z) => z.toNat | _ => 0

set_option maxHeartbeats 4000000 in
theorem l2Drop_any (a : Option Addr) (zs : List Int) (c s : Nat) (w : World) (hr : Reads w a zs) (h : Fine zs) (hs : s < nb zs 0) :
    Calls Tryz.prog 89 #[.slice a 64 c, .int .i64 s] w fun e w' => Below w.heap.size w w' ∧ ∃ g dd ys, e = .returned (.slice (some ⟨g, 0, none⟩) 64 dd) ∧ 64 ≤ dd ∧ w.heap.size ≤ g ∧ Sl64 w' g ys ∧ Fine ys := by
  have hfew := h.few
  have hs16 : s < 16 := by omega
  have HD : Hid (∀ m, m ≤ nb zs 0 → (0 < m → m - 1 ≠ s ∧ ln zs (m - 1) ≠ 0) → Fine (drP zs s m)) := fun m hm hl => (dirs_drop h.dirs hs hm hl).fine
  have HN : Hid (s < nb zs 0) := hs
  obtain ⟨k, hk⟩ : ∃ k, k = nb zs 0 := ⟨_, rfl⟩
  have HK : Hid (nb zs 0 = k) := hk.symm
  rw [← hk] at hfew
  clear hs hk
  go_enter Tryz.func89, Tryz.ntmps89
  go_wp2_with fail
  refine (l2Copy_any a zs c _ hr h.pg.len).mono ?_
  rintro e w2 ⟨g, dd, rfl, hdd, gB, hgw, hA⟩
  have c0 := hA.cell (2 + 2 * s) (by omega)
  have f0 := hA.frozen (2 + 2 * s)
  go_upto_region 3 with (fail)
  have hA1 := hA.set (2 + 2 * s) (by omega) 0
  have gB1 := gB.setCell (p := ⟨g, 2 + 2 * s, none⟩) hgw (.int .u8 0)
  clear c0 f0
  generalize w2.setCell ⟨g, 2 + 2 * s, none⟩ (.int .u8 0) = V1 at hA1 gB1 ⊢
  have c0 := hA1.cell (3 + 2 * s) (by omega)
  have f0 := hA1.frozen (3 + 2 * s)
  go_wp2_with fail
  have hA2 := hA1.set (3 + 2 * s) (by omega) 0
  have gB2 := gB1.setCell (p := ⟨g, 3 + 2 * s, none⟩) hgw (.int .u8 0)
  clear c0 f0 hA1 gB1 hA gB
  generalize V1.setCell ⟨g, 3 + 2 * s, none⟩ (.int .u8 0) = V2 at hA2 gB2 ⊢
  have hA3 : Sl64 V2 g (drP zs s k) := by rw [← HK.out, drP_start h.pg s hs16]; exact hA2
  clear hA2
  go_loopw [31] (fun _ wr => ∃ m : Nat, m ≤ k ∧ Sl64 wr g (drP zs s m) ∧ Below w.heap.size w wr) (fun _ wr => headOf wr g)
  case atStart => exact ⟨k, Nat.le_refl _, hA3, gB2⟩
  case round =>
    obtain ⟨m, hm, hA, gW⟩ := hrel
    clear hA3 gB2
    have c0 := hA.cell 0 (by omega)
    rw [drP_head h.pg] at c0
    have hm16 : m ≤ 16 := by omega
    have hIs := isPg_drP h.pg s m hm16
    have hRd : Reads wr (some ⟨g, 0, none⟩) (drP zs s m) := (hA.bytes (Nat.le_refl _) (Nat.lt_succ_self _)).reads
    cases m with
    | zero =>
      have HF : Hid (Fine (drP zs s 0)) := HD.out 0 (Nat.zero_le _) (fun h0 => absurd h0 (Nat.lt_irrefl _))
      go_wp2_with fail
      go_ret
      exact ⟨gW, g, dd, _, rfl, hdd, hgw, hA, HF.out⟩
    | succ j =>
      have hj1 : ((j + 1 : Nat) : Int) - 1 = (j : Int) := by omega
      have hj0 : (0 : Int) < ((j + 1 : Nat) : Int) := by omega
      go_wp2_with fail
      refine (l2Size_any (some ⟨g, 0, none⟩) (drP zs s (j + 1)) dd j wr hRd hIs (by omega)).mono ?_
      rintro e w' ⟨rfl, hw'⟩
      subst w'
      have hy := drP_ln h.pg s (j + 1) j hs16
      simp only [ln] at hy
      obtain ⟨y, hyy⟩ : ∃ y, y = nb (drP zs s (j + 1)) (3 + 2 * j) := ⟨_, rfl⟩
      rw [← hyy] at hy ⊢
      have HY : Hid (y = if j = s then 0 else nb zs (3 + 2 * j)) := hy
      clear hyy hy
      cases y with
      | zero =>
        have f0 := hA.frozen 0
        have hA4 : Sl64 (wr.setCell ⟨g, 0, none⟩ (.int .u8 (j : Int))) g (drP zs s j) := by have := hA.set 0 (by omega) (j : Int); rwa [drP_set] at this
        have gW4 := gW.setCell (p := ⟨g, 0, none⟩) hgw (.int .u8 (j : Int))
        have hm1 : headOf wr g = j + 1 := by unfold headOf; rw [c0]; simp only; omega
        have hm2 : headOf (wr.setCell ⟨g, 0, none⟩ (.int .u8 (j : Int))) g = j := by unfold headOf; rw [World.cell?_setCell_same _ _ _ c0]; simp only; omega
        have HM : Hid (headOf (wr.setCell ⟨g, 0, none⟩ (.int .u8 (j : Int))) g < headOf wr g) := by show _ < _; omega
        clear hm1 hm2 hRd
        go_wp2_with fail
        go_roundw
        case rel => exact ⟨j, by omega, hA4, gW4⟩
        case measure => exact HM.out
      | succ y =>
        have HF : Hid (Fine (drP zs s (j + 1))) := by
          refine HD.out (j + 1) (by rw [HK.out]; exact hm) (fun _ => ?_)
          have hy := HY.out
          rw [Nat.add_sub_cancel]
          split at hy
          · cases hy
          · rename_i hne
            exact ⟨hne, by simp only [ln]; omega⟩
        clear hRd
        go_wp2_with fail
        go_ret
        exact ⟨gW, g, dd, _, rfl, hdd, hgw, hA, HF.out⟩

end Go.Proofs.YtdgonddimenmdaaGreat
