/-
  The model's l7Place: a cell placed.
-/
import Derived.Test.YtnfolgoloaeanaaGreatULpi
import Derived.Test.YtnfolgoloaeanaaGreatUBy
import Derived.Test.YtnfolgoloaeanaaGreatUUnpI
import Derived.Lib.AppendStr
import Derived.Lib.SmallJoins
import Derived.Deep.RegionHeld

namespace Go.Proofs.YtnfolgoloaeanaaGreat
open Go.RowKit
set_option linter.unusedVariables false
set_option maxRecDepth 20000

/-- What l7Place hands back. -/
def PlPost (sb : Nat → Prop) (B : Nat → Option Obj) (n₀ : Nat) (X : World) (ob : Nat) (r : St × Option (Nat × Nat)) (e : Ending) (V : World) : Prop := e = .returned (.tuple #[.int .i64 (((r.2.map (·.1)).getD 0 : Nat) : Int), .int .i64 (((r.2.map (·.2)).getD 0 : Nat) : Int), .bool r.2.isSome]) ∧ R3X sb B n₀ X ob r.1.1 r.1.2 V

theorem plS_skip {x : Int} {cs : List Int} {m j : Nat} {s : St} (hj : j < m) (h : (j : Int) = x) : plS x cs (m - j) j s = plS x cs (m - (j + 1)) (j + 1) s := by
  obtain ⟨k, hk⟩ : ∃ k, m - j = k + 1 := ⟨m - j - 1, by omega⟩
  rw [hk, show m - (j + 1) = k by omega, plS, if_pos h]
theorem plS_some {x : Int} {cs old : List Int} {m j sl : Nat} {s : St} (hj : j < m) (h : (j : Int) ≠ x) (ho : s.2[j]? = some old) (hr : (piS s j old cs).2 = some sl) : plS x cs (m - j) j s = ((piS s j old cs).1, some (j, sl)) := by
  obtain ⟨k, hk⟩ : ∃ k, m - j = k + 1 := ⟨m - j - 1, by omega⟩
  rw [hk, plS, if_neg h, getD_of ho, hr]
theorem plS_none {x : Int} {cs old : List Int} {m j : Nat} {s : St} (hj : j < m) (h : (j : Int) ≠ x) (ho : s.2[j]? = some old) (hr : (piS s j old cs).2 = none) : plS x cs (m - j) j s = plS x cs (m - (j + 1)) (j + 1) (piS s j old cs).1 := by
  obtain ⟨k, hk⟩ : ∃ k, m - j = k + 1 := ⟨m - j - 1, by omega⟩
  rw [hk, show m - (j + 1) = k by omega, plS, if_neg h, getD_of ho, hr]

set_option maxHeartbeats 8000000 in
theorem l7Place_any (sb : Nat → Prop) (B : Nat → Option Obj) (n₀ : Nat) (X : World) (ob : Nat) (es : List (Int × List Int)) (cur : List (List Int)) (x : Int) (cb so n cc : Nat) (cs : List Int) (w : World) (hS : R3X sb B n₀ X ob es cur w) (hok : okP cur) (hc12 : cur.length ≤ 12) (hel : es.length ≤ 100) (hC : Cx sb cb so B cs n) :
    Calls Tryz.prog 112 #[.pointer (some ⟨ob, 0, none⟩), .int .i64 x, .slice (some ⟨cb, so, none⟩) n cc] w fun e w' => PlPost sb B n₀ X ob (plS x cs cur.length 0 (es, cur)) e w' := by
  obtain ⟨m, hm⟩ : ∃ m, cur.length = m := ⟨_, rfl⟩
  rw [hm] at hc12 ⊢
  obtain ⟨R, hR⟩ : ∃ R, plS x cs m 0 (es, cur) = R := ⟨_, rfl⟩
  have HR : Hid (plS x cs m 0 (es, cur) = R) := hR
  rw [hR]
  have HC : Hid (Cx sb cb so B cs n) := hC
  have hA : OkS (es, cur) m 100 := ⟨hok, hm, hel⟩
  clear hR hC hok hm hel
  go_enter Tryz.func112, Tryz.ntmps112
  go_wp2_with fail
  go_loopw [9] (fun k wr => ∃ (j : Nat) (s : St), j ≤ m ∧ k = .int .i64 j ∧ Hid (plS x cs (m - j) j s = R) ∧ OkS s m (100 + 2 * j) ∧ R3X sb B n₀ X ob s.1 s.2 wr) (fun k _ => m - (intOf k).toNat)
  case atStart => exact ⟨0, (es, cur), Nat.zero_le _, rfl, HR, hA, hS⟩
  case round =>
    clear hS hA HR
    obtain ⟨j, ⟨es1, cur1⟩, hj, rfl, HR, hA, y1, m1, W1, y2, m2, W2, hS⟩ := hrel
    dsimp only at hS
    have hl := hA.l
    dsimp only at hl
    have hel := hA.e
    dsimp only at hel
    have hok : Hid (okP cur1) := hA.p
    by_cases hlt : j < m
    · have hjn : (j : Int) < (m : Int) := by omega
      obtain ⟨o0, o1, _, _⟩ := hS.o
      rw [hl] at o0
      by_cases hx : (j : Int) = x
      · have HR2 : Hid (plS x cs (m - (j + 1)) (j + 1) (es1, cur1) = R) := by show _ = _; rw [← plS_skip hlt hx]; exact HR.out
        have dx : ((j : Int) == x) = true := by simpa using hx
        have HF : Hid (R3X sb B n₀ X ob es1 cur1 wr) := ⟨_, _, _, _, _, _, hS⟩
        clear hx hS
        go_wp2_with fail
        go_roundw
        case rel => exact ⟨j + 1, (es1, cur1), by omega, by go_num, HR2, hA.mono (by omega), HF.out⟩
        case measure => simp [intOf]; omega
      · have dx : ((j : Int) == x) = false := by simpa using hx
        obtain ⟨old, hold⟩ : ∃ old, cur1[j]? = some old := ⟨_, List.getElem?_eq_getElem (by omega)⟩
        have hpi := l7PutIn_any sb B n₀ X ob es1 cur1 y1 m1 W1 y2 m2 W2 j cb so n cc old cs wr hS hok.out (by omega) (by omega) hold HC.out
        have hAn := hA.pi hlt hold HC.out.bd (by rw [HC.out.ln]; exact HC.out.h1)
        obtain ⟨r, hr⟩ : ∃ r, piS (es1, cur1) j old cs = r := ⟨_, rfl⟩
        rw [hr] at hpi hAn
        have HPi : Hid (Calls Tryz.prog 163 #[.pointer (some ⟨ob, 0, none⟩), .int .i64 j, .slice (some ⟨cb, so, none⟩) n cc] wr fun e w' => PiPost sb B n₀ X ob r e w') := hpi
        obtain ⟨rs, ro⟩ := r
        cases ro with
        | some sl =>
          have HE : Hid (R = (rs, some (j, sl))) := by
            show _ = _
            rw [← HR.out, plS_some hlt hx hold (sl := sl) (by rw [hr]), hr]
          clear hpi hS hr hx
          go_wp2_with fail
          refine HPi.out.mono ?_
          rintro e w3 ⟨rfl, hR3⟩
          clear HPi o0 o1
          go_wp2_with fail
          go_ret3
          rw [HE.out]
          exact ⟨rfl, hR3⟩
        | none =>
          have HR2 : Hid (plS x cs (m - (j + 1)) (j + 1) rs = R) := by
            show _ = _
            have h9 := plS_none (cs := cs) hlt hx hold (by rw [hr])
            rw [hr] at h9
            rw [← HR.out, h9]
          clear hpi hS hr hx
          go_wp2_with fail
          refine HPi.out.mono ?_
          rintro e w3 ⟨rfl, hR3⟩
          clear HPi o0 o1
          go_wp2_with fail
          go_roundw
          case rel => exact ⟨j + 1, rs, by omega, by go_num, HR2, hAn.mono (by omega), hR3⟩
          case measure => simp [intOf]; omega
    · have e : j = m := by omega
      subst e
      have hjn : ¬ (j : Int) < (j : Int) := by omega
      obtain ⟨o0, o1, _, _⟩ := hS.o
      rw [hl] at o0
      by_cases h12 : 12 ≤ j
      · have HE : Hid (R = ((es1, cur1), none)) := by
          show _ = _
          rw [← HR.out, Nat.sub_self, plS, nwS, if_pos (by show 12 ≤ cur1.length; omega)]
        have d12 : (12 : Int) ≤ (j : Int) := by omega
        have HF : Hid (R3X sb B n₀ X ob es1 cur1 wr) := ⟨_, _, _, _, _, _, hS⟩
        clear hS
        go_wp2_with fail
        go_ret3
        rw [HE.out]
        exact ⟨rfl, HF.out⟩
      · have d12 : ¬ (12 : Int) ≤ (j : Int) := by omega
        have HE : Hid (R = (tnS (es1, cur1) j (putP (newBytes 0) cs), some (j, putS (newBytes 0)))) := by
          show _ = _
          rw [← HR.out, Nat.sub_self, plS, nwS, if_neg (by show ¬ 12 ≤ cur1.length; omega)]
          show (tnS (es1, cur1) cur1.length _, some (cur1.length, _)) = _
          rw [hl]
        have HS : Hid (HpX sb B n₀ X ob es1 cur1 y1 m1 W1 y2 m2 W2 wr) := hS
        obtain ⟨W0, hWB, hWr⟩ := HC.out.rd
        have HWr : Hid (Reads W0 (some ⟨cb, so, none⟩) cs) := hWr
        have HCi : Hid (sb cb) := HC.out.i
        clear hS hWr
        go_wp2_with fail
        refine (l2New_any 0 wr).mono ?_
        rintro e w3 ⟨rfl, g3, hB3⟩
        have hS3 := HS.out.below g3
        have hput := l2Put_q (some ⟨wr.heap.size, 0, none⟩) (newBytes 0) cs 64 cb so n cc w3 hB3.reads (fine_new 0 (by omega) (by omega)) HC.out.ln HC.out.h1 HC.out.h20 (hS3.rd HCi.out hWB HWr.out)
        have HPut : Hid (Calls Tryz.prog 146 #[.slice (some ⟨wr.heap.size, 0, none⟩) 64 64, .slice (some ⟨cb, so, none⟩) n cc] w3 fun e w' => PqPost (newBytes 0) cs n w3 e w') := hput
        have HS3 : Hid (HpX sb B n₀ X ob es1 cur1 y1 m1 W1 y2 m2 W2 w3) := hS3
        clear hput hS3 hB3 HS g3
        go_wp2_with fail
        refine HPut.out.mono ?_
        rintro e w4 ⟨g4, hq0, -⟩
        obtain ⟨g, dd, rfl, hdd, hg, hs64⟩ := hq0 (putQ_new n HC.out.h20)
        have hPf : Fine (putP (newBytes 0) cs) := fine_put (fine_new 0 (by omega) (by omega)) HC.out.bd (by rw [HC.out.ln]; exact HC.out.h1) (by rw [HC.out.ln]; exact putQ_new n HC.out.h20)
        have hfr := HS3.out.fresh hg (o := 0) (n := 64) (c := dd)
        have hS4 := HS3.out.below g4
        have hcon := l7Turn_any sb B n₀ X ob es1 cur1 y1 m1 W1 y2 m2 W2 j (some ⟨g, 0, none⟩) dd (putP (newBytes 0) cs) w4 hS4 (by omega) hok.out.bd hPf.pg.bd hPf.pg.len (by omega) (by omega) hs64.rb hfr.1
        have HCon : Hid (Calls Tryz.prog 165 #[.pointer (some ⟨ob, 0, none⟩), .int .i64 j, .slice (some ⟨g, 0, none⟩) 64 dd] w4 fun e w' => TxPost sb B n₀ X ob (tnE es1 cur1 j (putP (newBytes 0) cs)) (wpL cur1 j (putP (newBytes 0) cs)) e w') := hcon
        obtain ⟨o0, o1, _, _⟩ := hS4.o
        rw [hl] at o0
        clear hcon hq0 hfr hs64 HPut HS3 hS4
        go_wp2_with fail
        refine HCon.out.mono ?_
        rintro e w5 ⟨rfl, z1, n1, Z1, z2, n2, Z2, hS5⟩
        have hl5 : (wpL cur1 j (putP (newBytes 0) cs)).length = j + 1 := by rw [show j = cur1.length from hl.symm, wpL_new, List.length_append]; rfl
        obtain ⟨o0', o1', _, _⟩ := hS5.o
        rw [hl5] at o0'
        have HF : Hid (R3X sb B n₀ X ob (tnE es1 cur1 j (putP (newBytes 0) cs)) (wpL cur1 j (putP (newBytes 0) cs)) w5) := ⟨_, _, _, _, _, _, hS5⟩
        clear hS5 HCon o0 o1 hl5
        go_wp2_with fail
        go_ret3
        rw [HE.out]
        refine ⟨?_, HF.out⟩
        simp


def cellBytes (f t k v : Int) (s : ByteArray) : List Int := [f, t, k, v / 256, v % 256, s.size] ++ s.data.toList.map fun b => (b.toNat : Int)

theorem and255 (v : Int) (v0 : 0 ≤ v) (v1 : v ≤ 999) : bits BinOp.and IntKind.i64 v 255 = v % 256 := by
  obtain ⟨n, rfl⟩ := Int.eq_ofNat_of_zero_le v0
  have h : ∀ m : Fin 1000, bits BinOp.and IntKind.i64 (m.val : Int) 255 = (m.val : Int) % 256 := by decide +kernel
  exact h ⟨n, by omega⟩

theorem strCells_ints (s : ByteArray) : Lib.strCells s = (s.data.toList.map fun b => (b.toNat : Int)).map (Value.int .u8) := by
  simp [Lib.strCells]

set_option maxHeartbeats 400000 in
theorem rowCell_any (f t k v : Int) (s : ByteArray) (w : World) (f0 : 0 ≤ f) (f1 : f ≤ 2) (t0 : 0 ≤ t) (t1 : t ≤ 3) (k0 : 1 ≤ k) (k1 : k ≤ 99) (v0 : 0 ≤ v) (v1 : v ≤ 999) (hs : s.size ≤ 8) :
    Calls Tryz.prog 54 #[.int .i64 f, .agg #[.int .i64 t, .int .i64 k, .int .i64 v, .string s]] w fun e w' =>
      ∃ g c, e = .returned (.slice (some ⟨g, 0, none⟩) (6 + s.size) c) ∧ Below w.heap.size w w' ∧ BytesIn w.heap.size w'.heap.size w' (some ⟨g, 0, none⟩) (cellBytes f t k v s) := by
  obtain ⟨i0, hi, hz0, hz1, hz2⟩ := info5
  have ha := and255 v v0 v1
  go_enter Tryz.func54, Tryz.ntmps54
  go_wp2_with (at_builtin; go_must (refine Lib.wpList_append_own_string _ rfl _ _ 22 9 rfl (w.heap.size + 1) 5 i0 Tryz.underlying22 Tryz.underlying9 hi hz0 hz1 hz2 (.slice (some ⟨w.heap.size + 1, 0, none⟩) 6 6) 6 [.int .u8 f, .int .u8 t, .int .u8 k, .int .u8 (v / 256), .int .u8 (v % 256), .int .u8 s.size] rfl ?c1 s rfl ?c3 ?c4 ?c5 ?_))
  case c1 =>
    have h := World.ownsRow_lit (base := w.heap.size + 1) (e := 5) (size := 1) (w.alloc (.cells #[.int .i64 t, .int .i64 k, .int .i64 v, .string s] 26)) #[.int .u8 f, .int .u8 t, .int .u8 k, .int .u8 (v / 256), .int .u8 (v % 256), .int .u8 s.size] 6 (by simp) (by unfold maxLen; omega) rfl
    simp only [World.size_alloc] at h
    exact h
  case c3 => unfold maxLen; omega
  case c4 => omega
  case c5 => simp
  intro v' w' hown hgrow _
  obtain ⟨g, cap, hv⟩ := Joins.ownsRow_form hown (by omega)
  subst hv
  have hB : Below w.heap.size w w' := Below.grown (B := w.heap.size) (by go_grown) hgrow (by simp; omega) (fun k hk => by simp [Value.ownBlock] at hk; omega)
  have hY : BytesIn w.heap.size w'.heap.size w' (some ⟨g, 0, none⟩) (cellBytes f t k v s) := by
    refine BytesIn.mono (bytesIn_owns (base := w.heap.size + 1) (e := 5) (n := 6 + s.size) (cap := cap) ?_) (by omega) (Nat.le_refl _)
    rw [show (cellBytes f t k v s).map (Value.int .u8) = _ from by rw [cellBytes, List.map_append, ← strCells_ints]]
    exact hown
  clear hown hgrow
  go_wp2_with fail
  go_ret
  exact ⟨g, cap, rfl, hB, hY⟩

theorem ownsRow_drew {w : World} {base : Nat} {e : TypeId} {size : Nat} {v : Value} {n : Nat} {xs : List Value} (h : w.ownsRow base e size v n xs) : w.drew.ownsRow base e size v n xs := h

theorem bytesRow_cell (w : World) (s : ByteArray) (cap g : Nat) (e : TypeId) (m : Nat × Nat) (hg : g = w.heap.size) (j : Nat) (u : Value) (h : (Lib.strCells s)[j]? = some u) : (w.alloc (.cells (bytesRow s cap) e m)).cell? ((⟨g, 0, none⟩ : Addr).add j) = some u := by
  subst hg
  have hj : j < s.size := by have := (List.getElem?_eq_some_iff.1 h).1; rw [Lib.strCells_length] at this; exact this
  rw [show ((⟨w.heap.size, 0, none⟩ : Addr).add j) = ⟨w.heap.size, j, none⟩ from by unfold Addr.add; split <;> simp_all]
  rw [World.cell?_alloc_mark]
  simp [Lib.strCells] at h
  obtain ⟨x, hx, rfl⟩ := h
  obtain ⟨_, rfl⟩ := Array.getElem?_eq_some_iff.1 hx
  simp [bytesRow, Array.getElem?_append, hj]
set_option maxHeartbeats 1000000 in
theorem l1CellO_any (f t k v : Int) (s : ByteArray) (b o : Nat) (w : World) (f0 : 0 ≤ f) (f1 : f ≤ 2) (t0 : 0 ≤ t) (t1 : t ≤ 3) (k0 : 1 ≤ k) (k1 : k ≤ 99) (v0 : 0 ≤ v) (v1 : v ≤ 999) (hs : s.size ≤ 8) (h : RowC w b o ⟨t, k, v, s⟩) :
    Calls Tryz.prog 113 #[.int .i64 f, .pointer (some ⟨b, o, none⟩)] w fun e w' =>
      ∃ g c, e = .returned (.slice (some ⟨g, 0, none⟩) (6 + s.size) c) ∧ Below w.heap.size w w' ∧ BytesIn w.heap.size w'.heap.size w' (some ⟨g, 0, none⟩) (cellBytes f t k v s) := by
  obtain ⟨i0, hi, hz0, hz1, hz2⟩ := info5
  obtain ⟨c0, c1, c2, c3⟩ := h
  dsimp only at c0 c1 c2 c3
  have hlt : b < w.heap.size := World.block_lt_of_cell? w _ c0
  have kc := fun (w : World) (s : ByteArray) => run_bytes_of_string (P := Tryz.prog) w 9 22 5 s Tryz.underlying9 Tryz.underlying22 Tryz.underlying5
  go_enter Tryz.func113, Tryz.ntmps113
  go_wp2_with fail
  go_region_held (fun w' => w'.cell? ⟨b, o, none⟩ = some (.int .i64 t) ∧ w'.cell? ⟨b, o + 1, none⟩ = some (.int .i64 k) ∧ w'.cell? ⟨b, o + 2, none⟩ = some (.int .i64 v) ∧ w'.cell? ⟨b, o + 3, none⟩ = some (.string s)) (go_keep) (fail)
  go_wp2_with (at_builtin; go_must (refine wpList_append_own _ rfl _ _ 22 rfl w.heap.size 5 i0 (.int .u8 0) 1 1 Tryz.underlying22 hi hz0 hz1 hz2 rfl (by decide) (.slice (some ⟨w.heap.size, 0, none⟩) 6 6) 6 [.int .u8 f, .int .u8 t, .int .u8 k, .int .u8 (v / 256), .int .u8 (v % 256), .int .u8 s.size] rfl ?c1 ⟨w.heap.size + 1, 0, none⟩ s.size _ (Lib.strCells s) rfl ?c2 ?c3 ?c4 ?c5 ?c6 ?c7 ?_))
  case c1 =>
    repeat (refine ownsRow_drew ?_)
    exact World.ownsRow.alloc (World.ownsRow_lit (base := w.heap.size) (e := 5) (size := 1) w #[.int .u8 f, .int .u8 t, .int .u8 k, .int .u8 (v / 256), .int .u8 (v % 256), .int .u8 s.size] 6 (Nat.le_refl _) (by unfold maxLen; omega) rfl) _
  case c2 => rw [Lib.strCells_length, Nat.mul_one]
  case c3 =>
    intro j u hj
    exact bytesRow_cell _ s _ _ _ _ (by simp) j u hj
  case c4 => intro u hu; simp [Lib.strCells] at hu; obtain ⟨x, _, rfl⟩ := hu; rfl
  case c5 => unfold maxLen; omega
  case c6 => omega
  case c7 => simp; omega
  intro v' w' hown hgrow _
  obtain ⟨g, cap, hv⟩ := Joins.ownsRow_form hown (by omega)
  subst hv
  have hB : Below w.heap.size w w' := Below.grown (B := w.heap.size) (by go_grown) hgrow (by simp; omega) (fun k hk => by simp [Value.ownBlock] at hk; omega)
  have hY : BytesIn w.heap.size w'.heap.size w' (some ⟨g, 0, none⟩) (cellBytes f t k v s) := by
    refine bytesIn_owns (e := 5) (n := 6 + s.size) (cap := cap) ?_
    rw [show (cellBytes f t k v s).map (Value.int .u8) = _ from by rw [cellBytes, List.map_append, ← strCells_ints]]
    exact hown
  clear hown hgrow
  go_wp2_with fail
  go_ret
  exact ⟨g, cap, rfl, hB, hY⟩

end Go.Proofs.YtnfolgoloaeanaaGreat

