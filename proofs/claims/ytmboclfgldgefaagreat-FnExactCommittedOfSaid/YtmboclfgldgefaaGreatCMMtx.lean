/-
  Numbers, keys and transactions marked, and looked at again.
-/
import Derived.Test.YtmboclfgldgefaaGreatCMTxc
import Derived.Test.YtmboclfgldgefaaGreatCMMkx
import Derived.Test.YtmboclfgldgefaaGreatCMTxd

namespace Go.Proofs.YtmboclfgldgefaaGreat
open Go.RowKit Go.Maps
set_option linter.unusedVariables false
set_option maxRecDepth 20000

def mkI (k i : Nat) : Int := ((k + i : Nat) : Int)
def mkK (k i : Nat) : K2 := ⟨((k + 2 * i : Nat) : Int), ((k + 2 * i + 1 : Nat) : Int)⟩
/-- The first j are f's, the others as they are. -/
def mkG {α : Type} (f : Nat → α) (j : Nat) (xs : List α) : List α := (List.range j).map f ++ xs.drop j
theorem mkG_len {α : Type} {f : Nat → α} {j : Nat} {xs : List α} (h : j ≤ xs.length) : (mkG f j xs).length = xs.length := by simp [mkG]; omega
theorem mkG_at {α : Type} {f : Nat → α} {j : Nat} {xs : List α} (h : j < xs.length) : ∃ x, (mkG f j xs)[j]? = some x := ⟨_, List.getElem?_eq_getElem (by rw [mkG_len (by omega)]; exact h)⟩
theorem mkG_set {α : Type} {f : Nat → α} {j : Nat} {xs : List α} (h : j < xs.length) : (mkG f j xs).set j (f j) = mkG f (j + 1) xs := by
  unfold mkG
  rw [List.range_succ, List.map_append, List.set_append_right _ _ (by simp), List.length_map, List.length_range, Nat.sub_self, List.append_assoc]
  congr 1
  rw [List.drop_eq_getElem_cons h]
  rfl
theorem mkG_all {α : Type} {f : Nat → α} {xs : List α} {n : Nat} (h : xs.length = n) : mkG f n xs = (List.range n).map f := by
  unfold mkG
  rw [← h, List.drop_length, List.append_nil]

set_option maxHeartbeats 4000000 in
theorem markInt64S_any (a : Option Addr) (lo hi : Nat) (xs : List Int) (n c k : Nat) (w : World) (hn : xs.length = n) (hm : n ≤ 1048576) (hk1 : k ≤ 80000000) (ha : SlIn inE 1 lo hi w a xs) :
    Calls Tryz.prog 59 #[.slice a n c, .int .i64 k] w fun e w' => e = .returned (.int .i64 ((k + n : Nat) : Int)) ∧ Turned lo hi w w' ∧ SlIn inE 1 lo hi w' a ((List.range n).map (mkI k)) := by
  have HN : Hid (xs.length = n) := hn
  clear hn
  go_enter Tryz.func59, Tryz.ntmps59
  go_wp2_with fail
  go_loopw [5, 1] (fun i kk wr => ∃ j : Nat, j ≤ n ∧ i = .int .i64 j ∧ kk = .int .i64 ((k + j : Nat) : Int) ∧ Turned lo hi w wr ∧ SlIn inE 1 lo hi wr a (mkG (mkI k) j xs)) (fun i _ _ => n - (intOf i).toNat)
  case atStart => exact ⟨0, Nat.zero_le _, rfl, rfl, Turned.refl _ _ _, ha⟩
  case round =>
    obtain ⟨j, hj, rfl, rfl, ht, hS⟩ := hrel
    clear ha
    by_cases hlt : j < n
    · obtain ⟨x, hx⟩ := mkG_at (f := mkI k) (xs := xs) (j := j) (by rw [HN.out]; exact hlt)
      have HS : Hid ((mkG (mkI k) j xs).set j (mkI k j) = mkG (mkI k) (j + 1) xs) := mkG_set (by rw [HN.out]; exact hlt)
      have hjn : (j : Int) < (n : Int) := by omega
      have HM : Hid (mkI k j = ((k + j : Nat) : Int)) := rfl
      obtain ⟨k0, hk0⟩ : ∃ k0 : Nat, k + j = k0 := ⟨_, rfl⟩
      have HK : Hid (k + j = k0) := hk0
      have hkb : k0 ≤ 90000000 := by omega
      rw [hk0] at HM ⊢
      clear hk0
      generalize mkG (mkI k) j xs = zs at hS hx HS
      rw [HM.out] at HS
      obtain ⟨b, off, rfl⟩ : ∃ b off, a = some ⟨b, off, none⟩ := by
        rcases hS with rfl | ⟨b, off, e, _⟩
        · simp at hx
        · exact ⟨b, off, e⟩
      obtain ⟨hlo, hhi, c0, f0⟩ : lo ≤ b ∧ b < hi ∧ wr.cell? ⟨b, off + j, none⟩ = some (.int .i64 x) ∧ wr.frozen? ⟨b, off + j, none⟩ = false := by
        rcases hS with rfl | ⟨b', off', e, h1, h2, hc⟩
        · simp at hx
        · cases e
          have := hc j x hx 0 _ rfl
          rw [Nat.mul_one, Nat.add_zero] at this
          exact ⟨h1, h2, this.1, this.2⟩
      have S1 := hS.setG inE_len (x' := ((k0 : Nat) : Int)) (c := 0) (v := .int .i64 ((k0 : Nat) : Int)) hx (by omega) rfl
      rw [Nat.mul_one, Nat.add_zero] at S1
      rw [HS.out] at S1
      have T1 := ht.setCell (p := ⟨b, off + j, none⟩) hlo hhi (.int .i64 ((k0 : Nat) : Int))
      clear hS ht hx HS
      have HK1 : Hid (((k0 + 1 : Nat) : Int) = ((k + (j + 1) : Nat) : Int)) := by show _ = _; have := HK.out; omega
      go_wp2_with fail
      go_roundw
      case rel => exact ⟨j + 1, by omega, by go_num, by rw [← HK1.out]; go_num, T1, S1⟩
      case measure => simp [intOf]; omega
    · have e : j = n := by omega
      subst e
      rw [mkG_all HN.out] at hS
      obtain ⟨kk, hkk⟩ : ∃ kk, ((k + j : Nat) : Int) = kk := ⟨_, rfl⟩
      have HKK : Hid (((k + j : Nat) : Int) = kk) := hkk
      rw [hkk]
      clear hkk
      go_wp2_with fail
      go_ret
      exact ⟨by rw [HKK.out]; rfl, ht, hS⟩

set_option maxHeartbeats 4000000 in
theorem markKeyS_any (a : Option Addr) (lo hi : Nat) (xs : List K2) (n c k : Nat) (w : World) (hn : xs.length = n) (hm : n ≤ 1048576) (hk1 : k ≤ 80000000) (ha : SlIn kyE 2 lo hi w a xs) :
    Calls Tryz.prog 60 #[.slice a n c, .int .i64 k] w fun e w' => e = .returned (.int .i64 ((k + 2 * n : Nat) : Int)) ∧ Turned lo hi w w' ∧ SlIn kyE 2 lo hi w' a ((List.range n).map (mkK k)) := by
  have HN : Hid (xs.length = n) := hn
  clear hn
  go_enter Tryz.func60, Tryz.ntmps60
  go_wp2_with fail
  go_loopw [5, 1] (fun i kk wr => ∃ j : Nat, j ≤ n ∧ i = .int .i64 j ∧ kk = .int .i64 ((k + 2 * j : Nat) : Int) ∧ Turned lo hi w wr ∧ SlIn kyE 2 lo hi wr a (mkG (mkK k) j xs)) (fun i _ _ => n - (intOf i).toNat)
  case atStart => exact ⟨0, Nat.zero_le _, rfl, rfl, Turned.refl _ _ _, ha⟩
  case round =>
    obtain ⟨j, hj, rfl, rfl, ht, hS⟩ := hrel
    clear ha
    by_cases hlt : j < n
    · obtain ⟨x, hx⟩ := mkG_at (f := mkK k) (xs := xs) (j := j) (by rw [HN.out]; exact hlt)
      have HS : Hid ((mkG (mkK k) j xs).set j (mkK k j) = mkG (mkK k) (j + 1) xs) := mkG_set (by rw [HN.out]; exact hlt)
      have hjn : (j : Int) < (n : Int) := by omega
      obtain ⟨k0, hk0⟩ : ∃ k0 : Nat, k + 2 * j = k0 := ⟨_, rfl⟩
      obtain ⟨k1, hk1'⟩ : ∃ k1 : Nat, k0 + 1 = k1 := ⟨_, rfl⟩
      have HM : Hid (mkK k j = ⟨((k0 : Nat) : Int), ((k1 : Nat) : Int)⟩) := by show _ = _; rw [← hk1', ← hk0]; rfl
      have HK : Hid (k1 + 1 = k + 2 * (j + 1)) := by show _ = _; omega
      have hkb : k0 ≤ 90000000 := by omega
      have hkb1 : k1 ≤ 90000001 := by omega
      have e1 : ((k0 : Nat) : Int) + 1 = ((k1 : Nat) : Int) := by omega
      rw [hk0]
      clear hk0 hk1'
      have hxl : j < (mkG (mkK k) j xs).length := (List.getElem?_eq_some_iff.1 hx).1
      generalize mkG (mkK k) j xs = zs at hS hx HS hxl
      rw [HM.out] at HS
      obtain ⟨b, off, rfl⟩ : ∃ b off, a = some ⟨b, off, none⟩ := by
        rcases hS with rfl | ⟨b, off, e, _⟩
        · simp at hx
        · exact ⟨b, off, e⟩
      obtain ⟨x0, y0⟩ := x
      obtain ⟨hlo, hhi, ⟨c0, f0⟩, c1, f1⟩ : lo ≤ b ∧ b < hi ∧ (wr.cell? ⟨b, off + j * 2, none⟩ = some (.int .i64 x0) ∧ wr.frozen? ⟨b, off + j * 2, none⟩ = false) ∧ wr.cell? ⟨b, off + j * 2 + 1, none⟩ = some (.int .i64 y0) ∧ wr.frozen? ⟨b, off + j * 2 + 1, none⟩ = false := by
        rcases hS with rfl | ⟨b', off', e, h1, h2, hc⟩
        · simp at hx
        · cases e
          exact ⟨h1, h2, hc j _ hx 0 _ rfl, hc j _ hx 1 _ rfl⟩
      have S1 := hS.setG kyE_len (x' := ⟨((k0 : Nat) : Int), y0⟩) (c := 0) (v := .int .i64 ((k0 : Nat) : Int)) hx (by omega) rfl
      rw [Nat.add_zero] at S1
      have T1 := ht.setCell (p := ⟨b, off + j * 2, none⟩) hlo hhi (.int .i64 ((k0 : Nat) : Int))
      have hx1 : (zs.set j ⟨((k0 : Nat) : Int), y0⟩)[j]? = some ⟨((k0 : Nat) : Int), y0⟩ := List.getElem?_set_self hxl
      have S2 := S1.setG kyE_len (x' := ⟨((k0 : Nat) : Int), ((k1 : Nat) : Int)⟩) (c := 1) (v := .int .i64 ((k1 : Nat) : Int)) hx1 (by omega) rfl
      rw [List.set_set, HS.out] at S2
      have T2 := T1.setCell (p := ⟨b, off + j * 2 + 1, none⟩) hlo hhi (.int .i64 ((k1 : Nat) : Int))
      clear hS ht hx HS S1 T1 hx1
      have HK1 : Hid (((k1 + 1 : Nat) : Int) = ((k + 2 * (j + 1) : Nat) : Int)) := by show _ = _; have := HK.out; omega
      go_wp2_with fail
      go_roundw
      case rel => exact ⟨j + 1, by omega, by go_num, by rw [← HK1.out]; go_num, T2, S2⟩
      case measure => simp [intOf]; omega
    · have e : j = n := by omega
      subst e
      rw [mkG_all HN.out] at hS
      obtain ⟨kk, hkk⟩ : ∃ kk, ((k + 2 * j : Nat) : Int) = kk := ⟨_, rfl⟩
      have HKK : Hid (((k + 2 * j : Nat) : Int) = kk) := hkk
      rw [hkk]
      clear hkk
      go_wp2_with fail
      go_ret
      exact ⟨by rw [HKK.out]; rfl, ht, hS⟩

end Go.Proofs.YtmboclfgldgefaaGreat
