/-
  Marks: markText, markRowS, heldRowS, markByteSS.
-/
import Derived.Test.YtonngopnhpmjaaaESrw
import Derived.BigQuiet
import Derived.Shelf.Pu.Clone
import Derived.Ground.MpProg
import Derived.Test.YtonngopnhpmjaaaProg

namespace Go.Proofs.Ytonngopnhpmjaaa
open Go.RowKit
set_option linter.unusedVariables false

theorem wrapI' {x : Int} (h0 : -9223372036854775808 ≤ x) (h1 : x ≤ 9223372036854775807) : IntKind.i64.wrap x = x := by rw [IntKind.wrap_i64]; omega
theorem wrapU' {x : Int} (h0 : 0 ≤ x) (h1 : x ≤ 255) : IntKind.u8.wrap x = x := by simp [IntKind.wrap, IntKind.bits, IntKind.signed]; omega

/-- The byte of a digit. -/
def dgB (d : Nat) : UInt8 := UInt8.ofNat (48 + d)
def mtF (k : Nat) (out : ByteArray) : ByteArray := if h : k = 0 then out else mtF (k / 10) (⟨#[dgB (k % 10)]⟩ ++ out)
termination_by k
decreasing_by omega
/-- The text of a mark. -/
def mtx (n : Nat) : ByteArray := ⟨#[109]⟩ ++ mtF n ⟨#[]⟩

theorem conv_cell (W : World) (b d : Nat) (hc : W.cell? ⟨b, 0, none⟩ = some (.int .u8 (48 + (d : Nat)))) :
    (convert 106 9 (.slice (some ⟨b, 0, none⟩) 1 1)).run Try.prog W = .ok (.string ⟨#[dgB d]⟩) W := by
  have h := run_convert_bytes_arg (P := Try.prog) W 106 5 Try.underlying106 Try.underlying5 b 0 1 1 [48 + (d : Nat)] rfl (fun i hi => by
    have : i = 0 := by omega
    subst this
    simpa using hc) 9 Try.underlying9
  have e : strOfNums [48 + (d : Nat)] = ⟨#[dgB d]⟩ := by
    show (⟨#[UInt8.ofNat (48 + (d : Int)).toNat]⟩ : ByteArray) = _
    rw [show (48 + (d : Int)).toNat = 48 + d by omega]
    rfl
  rw [← e]
  exact h
theorem conv_lit (D : World) (d : Nat) (hd : d < 10) :
    (convert 106 9 (.slice (some ⟨D.heap.size, 0, none⟩) 1 1)).run Try.prog (D.alloc (.cells #[.int .u8 (48 + (d : Nat))] 5)) = .ok (.string ⟨#[dgB d]⟩) (D.alloc (.cells #[.int .u8 (48 + (d : Nat))] 5)) :=
  conv_cell _ _ d (by simp [go_sem])

set_option maxRecDepth 20000 in
set_option maxHeartbeats 1000000 in
theorem markText_any (n : Nat) (hn : 1 ≤ n) (hm : n ≤ 100000000) (w : World) : Calls Try.prog 56 #[.int .i64 n] w fun e w' => e = .returned (.string (mtx n)) ∧ Below w.heap.size w w' := by
  have h0 : ¬ (n : Int) ≤ 0 := by omega
  obtain ⟨R, hR⟩ : ∃ R, R = mtF n ⟨#[]⟩ := ⟨_, rfl⟩
  have HE : Hid (mtx n = ⟨#[109]⟩ ++ R) := by show _ = _; rw [hR]; rfl
  have HS : Hid (mtF n ⟨#[]⟩ = R) := hR.symm
  clear hR
  go_enter Try.func56, Try.ntmps56
  go_wp2_with fail
  go_loopw [0, 3] (fun i v wr => ∃ (q : Nat) (out : ByteArray), i = .int .i64 q ∧ v = .string out ∧ Hid (mtF q out = R) ∧ out.size + q ≤ n ∧ Below w.heap.size w wr) (fun i _ _ => (intOf i).toNat)
  case atStart => exact ⟨n, ⟨#[]⟩, rfl, rfl, HS, by simp [ByteArray.size], Below.refl _ _⟩
  case round =>
    obtain ⟨q, out, rfl, rfl, hq, hsz, g⟩ := hrel
    by_cases hz : q = 0
    · subst hz
      have hR : Hid (out = R) := by show out = R; have := hq.out; rw [mtF] at this; simpa using this
      have hl : ¬ 9223372036854775807 < 1 + out.size := by omega
      go_wp2_with fail
      go_ret
      exact ⟨by rw [HE.out, ← hR.out]; rfl, g⟩
    · obtain ⟨r, hr⟩ : ∃ r, r = q % 10 := ⟨_, rfl⟩
      obtain ⟨p, hp⟩ : ∃ p, p = q / 10 := ⟨_, rfl⟩
      have hQ : Hid (mtF p (⟨#[dgB r]⟩ ++ out) = R) := by
        have := hq.out
        rw [mtF, dif_neg hz, ← hr, ← hp] at this
        exact this
      have hrd : r < 10 := by omega
      have hpq : p < q := by omega
      have h1 : (0 : Int) < (q : Int) := by omega
      have hq1 : Int.tdiv (q : Int) 10 = (p : Nat) := by rw [Int.tdiv_eq_ediv_of_nonneg (by omega)]; omega
      have hr1 : Int.tmod (q : Int) 10 = (r : Nat) := by rw [Int.tmod_eq_emod_of_nonneg (by omega)]; omega
      have hq2 : (q : Int) / 10 = (p : Nat) := by omega
      have hr2 : (q : Int) % 10 = (r : Nat) := by omega
      have hw2 : IntKind.i64.wrap (48 + (r : Int)) = 48 + r := wrapI' (by omega) (by omega)
      have hw3 : IntKind.u8.wrap (48 + (r : Int)) = 48 + r := wrapU' (by omega) (by omega)
      have hw1 : IntKind.i64.wrap (p : Int) = p := wrapI' (by omega) (by omega)
      have cv := conv_lit wr r hrd
      have hl : ¬ 9223372036854775807 < 1 + out.size := by omega
      clear hr hp
      go_wp2_with fail
      go_roundw
      case rel => exact ⟨p, ⟨#[dgB r]⟩ ++ out, by go_num, rfl, hQ, by rw [ByteArray.size_append]; show 1 + out.size + p ≤ n; omega, g.alloc g.size _⟩
      case measure => simp [intOf]; omega

theorem SlIn.set1 {lo hi b off i c : Nat} {w : World} {xs : List Rw} {x x' : Rw} {v : Value} (h : SlIn rwE 4 lo hi w (some ⟨b, off, none⟩) xs) (hx : xs[i]? = some x) (hc : c < 4) (he : rwE x' = (rwE x).set c v) :
    SlIn rwE 4 lo hi (w.setCell ⟨b, off + i * 4 + c, none⟩ v) (some ⟨b, off, none⟩) (xs.set i x') := by
  rcases h with rfl | ⟨b', off', e, h1, h2, hcs⟩
  · simp at hx
  · cases e
    have hil : i < xs.length := (List.getElem?_eq_some_iff.1 hx).1
    refine .inr ⟨b, off, rfl, h1, h2, fun i' y hy j u hu => ?_⟩
    rw [World.frozen?_setCell]
    by_cases e1 : i' = i
    · subst e1
      rw [List.getElem?_set_self hil] at hy
      cases hy
      rw [he] at hu
      have hj : j < 4 := by
        have := (List.getElem?_eq_some_iff.1 hu).1
        rw [List.length_set, rwE_len] at this
        exact this
      obtain ⟨u0, hu0⟩ : ∃ u0, (rwE x)[j]? = some u0 := ⟨_, List.getElem?_eq_getElem (by rw [rwE_len]; exact hj)⟩
      have hold := hcs i' x hx j u0 hu0
      by_cases e2 : j = c
      · subst e2
        rw [List.getElem?_set_self (by rw [rwE_len]; exact hj)] at hu
        cases hu
        exact ⟨World.cell?_setCell_same _ _ _ hold.1, hold.2⟩
      · rw [List.getElem?_set_ne (fun e => e2 e.symm)] at hu
        rw [hu0] at hu
        cases hu
        rw [World.cell?_setCell_other _ _ _ _ (fun e => e2 (by have := congrArg Addr.off e; simp at this; omega))]
        exact hold
    · rw [List.getElem?_set_ne (fun e => e1 e.symm)] at hy
      have hold := hcs i' y hy j u hu
      have hj : j < 4 := by
        have := (List.getElem?_eq_some_iff.1 hu).1
        rw [rwE_len] at this
        exact this
      rw [World.cell?_setCell_other _ _ _ _ (fun e => e1 (by have := congrArg Addr.off e; simp at this; omega))]
      exact hold

theorem SlIn.at4 {lo hi b off i : Nat} {w : World} {xs : List Rw} {x : Rw} (h : SlIn rwE 4 lo hi w (some ⟨b, off, none⟩) xs) (hx : xs[i]? = some x) : lo ≤ b ∧ b < hi ∧ RowC w b (off + i * 4) x ∧ ∀ c, c < 4 → w.frozen? ⟨b, off + i * 4 + c, none⟩ = false := by
  rcases h with rfl | ⟨b', off', e, h1, h2, hcs⟩
  · simp at hx
  · cases e
    refine ⟨h1, h2, RowC.of (fun j u hu => (hcs i x hx j u hu).1), fun c hc => ?_⟩
    exact (hcs i x hx c _ (List.getElem?_eq_getElem (by rw [rwE_len]; exact hc))).2

/-- The i-th row of marks. -/
def mkR (k : Nat) (i : Nat) : Rw := ⟨(k + 4 * i : Nat), (k + 4 * i + 1 : Nat), (k + 4 * i + 2 : Nat), mtx (k + 4 * i + 3)⟩
def mkL (k j : Nat) (rs : List Rw) : List Rw := (List.range j).map (mkR k) ++ rs.drop j
theorem mkL_len {k j : Nat} {rs : List Rw} (h : j ≤ rs.length) : (mkL k j rs).length = rs.length := by simp [mkL]; omega
theorem mkL_at {k j : Nat} {rs : List Rw} (h : j < rs.length) : ∃ x, (mkL k j rs)[j]? = some x := ⟨_, List.getElem?_eq_getElem (by rw [mkL_len (by omega)]; exact h)⟩
theorem mkL_set {k j : Nat} {rs : List Rw} (h : j < rs.length) : (mkL k j rs).set j (mkR k j) = mkL k (j + 1) rs := by
  unfold mkL
  rw [List.range_succ, List.map_append, List.set_append_right _ _ (by simp), List.length_map, List.length_range, Nat.sub_self, List.append_assoc]
  congr 1
  rw [show rs.drop j = rs[j] :: rs.drop (j + 1) from List.drop_eq_getElem_cons h]
  rfl
theorem mkL_all {k : Nat} {rs : List Rw} : mkL k rs.length rs = (List.range rs.length).map (mkR k) := by unfold mkL; rw [List.drop_length, List.append_nil]

set_option maxRecDepth 20000 in
set_option maxHeartbeats 4000000 in
theorem markRowS_any (a : Option Addr) (lo hi : Nat) (rs : List Rw) (n c k : Nat) (w : World) (hn : rs.length = n) (hm : n ≤ 1000) (hk0 : 1 ≤ k) (hk1 : k ≤ 1000000) (ha : SlIn rwE 4 lo hi w a rs) :
    Calls Try.prog 14 #[.slice a n c, .int .i64 k] w fun e w' => e = .returned (.int .i64 ((k + 4 * n : Nat) : Int)) ∧ Turned lo hi w w' ∧ SlIn rwE 4 lo hi w' a ((List.range n).map (mkR k)) := by
  have HN : Hid (rs.length = n) := hn
  clear hn
  go_enter Try.func14, Try.ntmps14
  go_wp2_with fail
  go_loopw [5, 1] (fun i kk wr => ∃ j : Nat, j ≤ n ∧ i = .int .i64 j ∧ kk = .int .i64 ((k + 4 * j : Nat) : Int) ∧ Turned lo hi w wr ∧ SlIn rwE 4 lo hi wr a (mkL k j rs)) (fun i _ _ => n - (intOf i).toNat)
  case atStart => exact ⟨0, Nat.zero_le _, rfl, rfl, Turned.refl _ _ _, ha⟩
  case round =>
    obtain ⟨j, hj, rfl, rfl, ht, hS⟩ := hrel
    clear ha
    by_cases hlt : j < n
    · obtain ⟨x, hx⟩ := mkL_at (k := k) (rs := rs) (j := j) (by rw [HN.out]; exact hlt)
      have HS : Hid ((mkL k j rs).set j (mkR k j) = mkL k (j + 1) rs) := mkL_set (by rw [HN.out]; exact hlt)
      have hxl : j < (mkL k j rs).length := (List.getElem?_eq_some_iff.1 hx).1
      have hjn : (j : Int) < (n : Int) := by omega
      obtain ⟨kk, hkk⟩ : ∃ kk : Nat, kk = k + 4 * j := ⟨_, rfl⟩
      have HK : Hid (kk = k + 4 * j) := hkk
      have hkb : kk ≤ 2000000 := by omega
      have hk1' : 1 ≤ kk := by omega
      rw [← hkk]
      clear hkk
      obtain ⟨k1, hq1⟩ : ∃ k1 : Nat, k1 = kk + 1 := ⟨_, rfl⟩
      obtain ⟨k2, hq2⟩ : ∃ k2 : Nat, k2 = k1 + 1 := ⟨_, rfl⟩
      obtain ⟨k3, hq3⟩ : ∃ k3 : Nat, k3 = k2 + 1 := ⟨_, rfl⟩
      obtain ⟨k4, hq4⟩ : ∃ k4 : Nat, k4 = k3 + 1 := ⟨_, rfl⟩
      have e1 : (kk : Int) + 1 = (k1 : Nat) := by omega
      have e2 : (k1 : Int) + 1 = (k2 : Nat) := by omega
      have e3 : (k2 : Int) + 1 = (k3 : Nat) := by omega
      have e4 : (k3 : Int) + 1 = (k4 : Nat) := by omega
      have HK4 : Hid (k4 = k + 4 * (j + 1)) := by show _ = _; have := HK.out; omega
      have hk4 : k4 ≤ 3000000 := by omega
      have hk3 : 1 ≤ k3 ∧ k3 ≤ 3000000 := by omega
      have HM : Hid (mkR k j = ⟨(kk : Nat), (k1 : Nat), (k2 : Nat), mtx k3⟩) := by show _ = _; rw [hq3, hq2, hq1, HK.out]; rfl
      clear hq1 hq2 hq3 hq4
      generalize mkL k j rs = xs at hS hx HS hxl
      obtain ⟨b, off, rfl⟩ : ∃ b off, a = some ⟨b, off, none⟩ := by
        rcases hS with rfl | ⟨b, off, e, _⟩
        · simp at hx
        · exact ⟨b, off, e⟩
      obtain ⟨xt, xk, xv, xs0⟩ := x
      obtain ⟨hlo, hhi, ⟨c0, c1, c2, c3⟩, hf⟩ := hS.at4 hx
      have f0 := hf 0 (by omega)
      simp only [Nat.add_zero] at f0
      have S1 := hS.set1 (x' := ⟨(kk : Nat), xk, xv, xs0⟩) (c := 0) (v := .int .i64 (kk : Nat)) hx (by omega) rfl
      have T1 := ht.setCell (p := ⟨b, off + j * 4, none⟩) hlo hhi (.int .i64 (kk : Nat))
      simp only [Nat.add_zero] at S1
      go_upto_region 6 with (fail)
      clear c0 c1 c2 c3 f0 hf hS ht
      generalize wr.setCell ⟨b, off + j * 4, none⟩ (.int .i64 (kk : Nat)) = V1 at S1 T1 ⊢
      have hx1 : (xs.set j ⟨(kk : Nat), xk, xv, xs0⟩)[j]? = some ⟨(kk : Nat), xk, xv, xs0⟩ := List.getElem?_set_self hxl
      obtain ⟨_, _, ⟨c0, c1, c2, c3⟩, hf⟩ := S1.at4 hx1
      have f1 := hf 1 (by omega)
      have S2 := S1.set1 (x' := ⟨(kk : Nat), (k1 : Nat), xv, xs0⟩) (c := 1) (v := .int .i64 (k1 : Nat)) hx1 (by omega) rfl
      have T2 := T1.setCell (p := ⟨b, off + j * 4 + 1, none⟩) hlo hhi (.int .i64 (k1 : Nat))
      rw [List.set_set] at S2
      go_upto_region 8 with (fail)
      clear c0 c1 c2 c3 f1 hf S1 T1 hx1
      generalize V1.setCell ⟨b, off + j * 4 + 1, none⟩ (.int .i64 (k1 : Nat)) = V2 at S2 T2 ⊢
      have hx2 : (xs.set j ⟨(kk : Nat), (k1 : Nat), xv, xs0⟩)[j]? = some ⟨(kk : Nat), (k1 : Nat), xv, xs0⟩ := List.getElem?_set_self hxl
      obtain ⟨_, _, ⟨c0, c1, c2, c3⟩, hf⟩ := S2.at4 hx2
      have f2 := hf 2 (by omega)
      have S3 := S2.set1 (x' := ⟨(kk : Nat), (k1 : Nat), (k2 : Nat), xs0⟩) (c := 2) (v := .int .i64 (k2 : Nat)) hx2 (by omega) rfl
      have T3 := T2.setCell (p := ⟨b, off + j * 4 + 2, none⟩) hlo hhi (.int .i64 (k2 : Nat))
      rw [List.set_set] at S3
      go_upto_region 10 with (fail)
      clear c0 c1 c2 c3 f2 hf S2 T2 hx2
      generalize V2.setCell ⟨b, off + j * 4 + 2, none⟩ (.int .i64 (k2 : Nat)) = V3 at S3 T3 ⊢
      go_wp2_with fail
      refine (markText_any k3 hk3.1 (by omega) _).mono ?_
      rintro e w4 ⟨rfl, g4⟩
      have S3 := S3.below g4
      have T3 := T3.trans (Turned.ofBelow g4)
      have hx3 : (xs.set j ⟨(kk : Nat), (k1 : Nat), (k2 : Nat), xs0⟩)[j]? = some ⟨(kk : Nat), (k1 : Nat), (k2 : Nat), xs0⟩ := List.getElem?_set_self hxl
      obtain ⟨_, _, ⟨c0, c1, c2, c3⟩, hf⟩ := S3.at4 hx3
      have f3 := hf 3 (by omega)
      generalize mtx k3 = ms at HM ⊢
      have S4 := S3.set1 (x' := ⟨(kk : Nat), (k1 : Nat), (k2 : Nat), ms⟩) (c := 3) (v := .string ms) hx3 (by omega) rfl
      have T4 := T3.setCell (p := ⟨b, off + j * 4 + 3, none⟩) hlo hhi (.string ms)
      rw [List.set_set] at S4
      have HS4 : Hid (SlIn rwE 4 lo hi (w4.setCell ⟨b, off + j * 4 + 3, none⟩ (.string ms)) (some ⟨b, off, none⟩) (mkL k (j + 1) rs)) := by rw [← HS.out, HM.out]; exact S4
      clear S4 S3 T3 g4 hx3 hf
      go_wp2_with fail
      go_roundw
      case rel => exact ⟨j + 1, by omega, by go_num, by rw [← HK4.out], T4, HS4.out⟩
      case measure => simp [intOf]; omega
    · have e : j = n := by omega
      subst e
      have HE : Hid (mkL k j rs = (List.range j).map (mkR k)) := by show _ = _; have := mkL_all (k := k) (rs := rs); rw [HN.out] at this; exact this
      go_wp2_with fail
      go_ret
      exact ⟨rfl, ht, by rw [← HE.out]; exact hS⟩

theorem RowC.lt {w : World} {b o : Nat} {r : Rw} (h : RowC w b o r) : b < w.heap.size := World.block_lt_of_cell? w _ h.c0

end Go.Proofs.Ytonngopnhpmjaaa

/-
  The program's rowsByKey; the model's l6At.
-/
namespace Go.Proofs.Ytonngopnhpmjaaa
open Go.RowKit Go.Maps
set_option linter.unusedVariables false

def rwK (r : Rw) : (Int × Int) × Value := ((r.t, r.k), rwA r)
theorem RowC.turn {w w' : World} {b o : Nat} {r : Rw} (h : RowC w b o r) {mb : Nat} (ht : w.mapTurned w' mb) (hne : b ≠ mb) : RowC w' b o r :=
  ⟨cell_turn ht h.c0, cell_turn ht h.c1, cell_turn ht h.c2, cell_turn ht h.c3⟩

/-- Where the row of that key is; none: -1. -/
def AtP (rs : List Rw) (t k : Int) (r : Int) : Prop := (r = -1 ∧ ∀ x ∈ rs, ¬ (x.t = t ∧ x.k = k)) ∨ ∃ (i : Nat) (x : Rw), r = i ∧ rs[i]? = some x ∧ x.t = t ∧ x.k = k

set_option maxHeartbeats 1000000 in
theorem l6At_any (a : Option Addr) (rs : List Rw) (n c : Nat) (t k : Int) (w : World) (hn : rs.length = n) (hm : n ≤ 100000) (hr : Rs rwE 4 w a rs) :
    Calls Try.prog 101 #[.slice a n c, .int .i64 t, .int .i64 k] w fun e w' => ∃ r : Int, e = .returned (.int .i64 r) ∧ AtP rs t k r ∧ w' = w := by
  have HN : Hid (rs.length = n) := hn
  have HR : Hid (Rs rwE 4 w a rs) := hr
  clear hn hr
  go_enter Try.func101, Try.ntmps101
  go_wp2_with fail
  go_loopw [7] (fun i wr => ∃ j : Nat, j ≤ n ∧ i = .int .i64 j ∧ Hid (∀ x ∈ rs.take j, ¬ (x.t = t ∧ x.k = k)) ∧ wr = w) (fun i _ => n - (intOf i).toNat)
  case atStart => exact ⟨0, Nat.zero_le _, rfl, by intro x hx; simp at hx, rfl⟩
  case round =>
    obtain ⟨j, hj, rfl, hf, rfl⟩ := hrel
    by_cases hlt : j < n
    · obtain ⟨x, hx⟩ := at_lt (rs := rs) (i := j) (by rw [HN.out]; exact hlt)
      obtain ⟨b, off, rfl, X'⟩ := HR.out.row hx
      have hjn : (j : Int) < (n : Int) := by omega
      have HX : Hid (rs[j]? = some x) := hx
      have HF : Hid (¬ (x.t = t ∧ x.k = k) → ∀ y ∈ rs.take (j + 1), ¬ (y.t = t ∧ y.k = k)) := fun hne y hy => by
        rw [take_snoc hx] at hy
        rcases List.mem_append.1 hy with h | h
        · exact hf.out y h
        · simp at h; subst h; exact hne
      clear hx hf
      obtain ⟨xt, xk, xv, xs0⟩ := x
      obtain ⟨x0, x1, x2, x3⟩ := X'
      dsimp only at x0 x1 x2 x3
      by_cases h1 : xt = t
      · subst h1
        by_cases h2 : xk = k
        · subst h2
          go_wp2_with fail
          go_ret
          exact ⟨j, rfl, .inr ⟨j, _, rfl, HX.out, rfl, rfl⟩, rfl⟩
        · have HF2 : Hid (∀ y ∈ rs.take (j + 1), ¬ (y.t = xt ∧ y.k = k)) := HF.out (fun h => h2 h.2)
          have d2 : (xk == k) = false := by simpa using h2
          go_wp2_with fail
          go_roundw
          case rel => exact ⟨j + 1, by omega, by go_num, HF2, by simp⟩
          case measure => simp [intOf]; omega
      · have HF2 : Hid (∀ y ∈ rs.take (j + 1), ¬ (y.t = t ∧ y.k = k)) := HF.out (fun h => h1 h.1)
        have d1 : (xt == t) = false := by simpa using h1
        go_wp2_with fail
        go_roundw
        case rel => exact ⟨j + 1, by omega, by go_num, HF2, by simp⟩
        case measure => simp [intOf]; omega
    · have HF2 : Hid (∀ x ∈ rs, ¬ (x.t = t ∧ x.k = k)) := by
        have := hf.out
        rw [List.take_of_length_le (by rw [HN.out]; omega)] at this
        exact this
      have hjn : ¬ (j : Int) < (n : Int) := by omega
      clear hf
      go_wp2_with fail
      go_ret
      exact ⟨-1, rfl, .inl ⟨rfl, HF2.out⟩, rfl⟩

end Go.Proofs.Ytonngopnhpmjaaa

/-
  DERIVED: THE SHELF's CONTRACTS AT THIS DUMP, IN PLAIN WORDS (tools/lay-plain.mjs out of 'TryShg9.lean', which tools/lay-shelf.mjs wrote): THE SAME DECLARATIONS UNDER THE SAME NAMES: 'import', 'namespace', 'open', 'def', 'theorem' AND NOTHING ELSE: no command of the shelf's: FOR A HAND-IN. Each laying: the table of numbers ('.._ren') and one theorem, a field a fact of the dump's own or the kernel's comparison; each contract: ONE APPLICATION.
-/
namespace Go.Proofs
open Go.Shelf
def Try.cloneL_ren : Go.Shelf.Ren := ⟨fun | 25 => 168 | n => n, fun | 9 => 9 | 3 => 3 | 4 => 4 | 37 => 106 | 0 => 0 | 47 => 261 | 5 => 5 | n => n, fun | n => n⟩
theorem Try.cloneL : Go.Proofs.LaysPu.n25 Try.prog Try.cloneL_ren := {
  mixed := by kernel_rfl
  f25 := Try.func168.trans (congrArg some (by kernel_rfl))
  t0 := Try.underlying0
  a0 := Try.isAgg0
  z0 := Try.sizeOf0
  v0 := Try.zeroValue0
  i0 := by kernel_rfl
  t3 := Try.underlying3
  a3 := Try.isAgg3
  z3 := Try.sizeOf3
  v3 := Try.zeroValue3
  i3 := by kernel_rfl
  t4 := Try.underlying4
  a4 := Try.isAgg4
  z4 := Try.sizeOf4
  v4 := Try.zeroValue4
  i4 := by kernel_rfl
  t5 := Try.underlying5
  a5 := Try.isAgg5
  z5 := Try.sizeOf5
  v5 := Try.zeroValue5
  i5 := by kernel_rfl
  t9 := Try.underlying9
  a9 := Try.isAgg9
  z9 := Try.sizeOf9
  v9 := Try.zeroValue9
  i9 := by kernel_rfl
  t37 := Try.underlying106
  a37 := Try.isAgg106
  z37 := Try.sizeOf106
  v37 := Try.zeroValue106
  i37 := by kernel_rfl
  t47 := Try.underlying261
  a47 := Try.isAgg261
  z47 := Try.sizeOf261
  v47 := Try.zeroValue261
  i47 := by kernel_rfl }
end Go.Proofs

/-
  A row with a text of its own: strings.Clone, ownRow. A change: its ten cells.
-/
namespace Go.Proofs.Ytonngopnhpmjaaa
open Go.RowKit
set_option linter.unusedVariables false

set_option maxHeartbeats 400000 in
theorem clone_any (s : ByteArray) (w : World) (hs : s.size ≤ 1048576) : Calls Try.prog 146 #[.string s] w fun e w' => e = .returned (.string s) ∧ Below w.heap.size w w' := by
  have hcon := AnyPu.stringslite_Clone Try.cloneL s w (by omega)
  change Calls Try.prog 168 _ _ _ at hcon
  go_enter Try.func146, Try.ntmps146
  go_wp2_with (go_at_call 168; refine hcon.mono ?_; rintro e w' ⟨rfl, g⟩)
  go_ret
  exact ⟨rfl, g⟩

set_option maxHeartbeats 1000000 in
theorem ownRow_any (t k v : Int) (s : ByteArray) (w : World) (hs : s.size ≤ 1048576) : Calls Try.prog 105 #[.agg #[.int .i64 t, .int .i64 k, .int .i64 v, .string s]] w fun e w' => e = .returned (.agg #[.int .i64 t, .int .i64 k, .int .i64 v, .string s]) ∧ Below w.heap.size w w' := by
  have hcon := fun W => clone_any s W hs
  have HC : Hid (∀ W, Calls Try.prog 146 #[.string s] W fun e w' => e = .returned (.string s) ∧ Below W.heap.size W w') := hcon
  clear hcon
  go_enter Try.func105, Try.ntmps105
  go_upto_region 1 with (fail)
  generalize hY : World.alloc _ _ = Y
  have gY : Below w.heap.size w Y := by rw [← hY]; go_grown
  have C : RowC Y w.heap.size 0 ⟨t, k, v, s⟩ := by rw [← hY]; exact ⟨by simp [go_sem], by simp [go_sem], by simp [go_sem], by simp [go_sem]⟩
  have f3 : Y.frozen? ⟨w.heap.size, 3, none⟩ = false := by rw [← hY]; simp [go_sem]
  have Z : RowC Y (w.heap.size + 1) 0 ⟨0, 0, 0, ⟨#[]⟩⟩ := by rw [← hY]; exact ⟨by simp [go_sem], by simp [go_sem], by simp [go_sem], by simp [go_sem]⟩
  have z0 : Y.frozen? ⟨w.heap.size + 1, 0, none⟩ = false := by rw [← hY]; simp [go_sem]
  have z1 : Y.frozen? ⟨w.heap.size + 1, 1, none⟩ = false := by rw [← hY]; simp [go_sem]
  have z2 : Y.frozen? ⟨w.heap.size + 1, 2, none⟩ = false := by rw [← hY]; simp [go_sem]
  have z3 : Y.frozen? ⟨w.heap.size + 1, 3, none⟩ = false := by rw [← hY]; simp [go_sem]
  clear hY
  have hlC := C.lt
  have hlZ := Z.lt
  have hne : w.heap.size + 1 ≠ w.heap.size := by omega
  have hge : w.heap.size ≤ w.heap.size + 1 := by omega
  obtain ⟨b1, hb1⟩ : ∃ b1, b1 = w.heap.size + 1 := ⟨_, rfl⟩
  rw [← hb1] at Z z0 z1 z2 z3 hlZ hne hge ⊢
  have gsz := Nat.le_refl w.heap.size
  have hb0 : w.heap.size ≤ w.heap.size := Nat.le_refl _
  clear hb1
  obtain ⟨b0, hb0'⟩ : ∃ b0, b0 = w.heap.size := ⟨_, rfl⟩
  have hB0 : w.heap.size ≤ b0 := by omega
  have hB1 : w.heap.size ≤ b1 := by omega
  have hnn : b1 ≠ b0 := by omega
  rw [← hb0'] at C f3 hlC ⊢
  clear hb0' hne hge gsz hb0
  obtain ⟨y0, y1, y2, y3⟩ := C
  dsimp only at y0 y1 y2 y3
  go_wp2_with fail
  refine (HC.out _).mono ?_
  rintro e w' ⟨rfl, g⟩
  have C : RowC w' b0 0 ⟨t, k, v, s⟩ := RowC.below (w := Y) ⟨y0, y1, y2, y3⟩ g hlC
  have Z := Z.below g hlZ
  have f3 := (g.frozen (p := ⟨b0, 3, none⟩) hlC).trans f3
  have z0 := (g.frozen (p := ⟨b1, 0, none⟩) hlZ).trans z0
  have z1 := (g.frozen (p := ⟨b1, 1, none⟩) hlZ).trans z1
  have z2 := (g.frozen (p := ⟨b1, 2, none⟩) hlZ).trans z2
  have z3 := (g.frozen (p := ⟨b1, 3, none⟩) hlZ).trans z3
  have gg := gY.trans (g.mono gY.size)
  clear y0 y1 y2 y3 g gY hlC hlZ
  obtain ⟨y0, y1, y2, y3⟩ := C
  obtain ⟨x0, x1, x2, x3⟩ := Z
  dsimp only at y0 y1 y2 y3 x0 x1 x2 x3
  go_wp2_with fail
  refine bodyPost_ret (v := .agg #[.int .i64 t, .int .i64 k, .int .i64 v, .string s]) (by simp [results, Try.results105, go_sem, *]) rfl ?_
  exact ⟨rfl, by go_grown⟩

end Go.Proofs.Ytonngopnhpmjaaa

/-
  risingKeys of the maps of rows and of changes.
-/
namespace Go.Proofs.Ytonngopnhpmjaaa
open Go.RowKit Go.Sort Go.Shelf
set_option linter.unusedVariables false

set_option maxHeartbeats 400000 in
theorem keysC_box (b : Nat) (w : World) : Calls Try.prog 148 #[.map (some b)] w fun e w' => e = .returned (.func (.func 171) #[] #[.pointer (some ⟨w.heap.size, 0, none⟩)]) ∧ Below w.heap.size w w' ∧ w'.cell? ⟨w.heap.size, 0, none⟩ = some (.map (some b)) := by
  go_enter Try.func148, Try.ntmps148
  go_wp2_with fail
  go_ret
  exact ⟨rfl, by go_grown, by simp [go_sem]⟩

set_option maxHeartbeats 1000000 in
theorem risingC_any (b sz : Nat) (l : List ((Int × Int) × Value)) (w : World) (h : MapK 147 w b l sz) (hl : l.length ≤ 100000) :
    Calls Try.prog 107 #[.map (some b)] w fun e w' => RkPost l w e w' := by
  obtain ⟨D, ho, hs, _, hh⟩ := h.1.has
  have hsz := h.2.1
  have hbl := ho.lt
  have hmem : ∀ x : K2, Maps.has D (k2L x) = true ↔ k2P x ∈ l.map (·.1) := fun x => by
    rw [show k2L x = kl x.x x.y from rfl, hh x.x x.y x.h]
    exact kvF_some l x.x x.y
  clear h hh
  go_enter Try.func107, Try.ntmps107
  go_wp2_with fail
  refine (keysC_box b _).mono ?_
  rintro e w1 ⟨rfl, g1, hc⟩
  have ho1 : w1.ownsMap Try.prog 147 hR b sz D := by
    obtain ⟨es, clock, hb, Ft, hs', hD⟩ := ho
    exact ⟨es, clock, (g1.block b hbl).trans hb, Ft, hs', hD⟩
  have hcl := World.block_lt_of_cell? w1 _ hc
  have hcon := sorted_any 171 #[.pointer (some ⟨w.heap.size, 0, none⟩)] (fun ss => ss.Nodup ∧ ∀ x, x ∈ ss ↔ Maps.has D (k2L x) = true) (Maps.size D) w1 (by omega)
    (enters_of Try.func171 (by kernel_rfl) rfl)
    (fun W hW => keysC_stops Fence.wide 9 trivial rfl (by omega) w.heap.size b sz D W (Nat.lt_of_lt_of_le hcl hW.size) ((hW.cell hcl).trans hc) (by
      obtain ⟨es, clock, hb, Ft, hs', hD⟩ := ho1
      exact ⟨es, clock, (hW.block b (by have := g1.size; omega)).trans hb, Ft, hs', hD⟩))
    (fun ss hss => by
      have h1 := nodup_le (ss.map k2P) (l.map (·.1)) (k2P_nodup hss.1) (fun q hq => by
        obtain ⟨x, hx, rfl⟩ := List.mem_map.1 hq
        exact (hmem x).1 ((hss.2 x).1 hx))
      simp only [List.length_map] at h1
      omega)
  go_wp2_with (go_at_call 147; refine hcon.mono ?_)
  rintro e w2 ⟨a, ys, c, ss, rfl, hss, hp, hr, g2, hi2⟩
  go_wp2_with fail
  go_ret
  have hs1 := g1.size
  refine ⟨a, ys, c, rfl, g1.trans (g2.mono hs1), hi2.mono hs1 (Nat.le_refl _), hr, hp.nodup_iff.2 hss.1, fun x => ?_⟩
  rw [hp.mem_iff, hss.2, hmem]

end Go.Proofs.Ytonngopnhpmjaaa
