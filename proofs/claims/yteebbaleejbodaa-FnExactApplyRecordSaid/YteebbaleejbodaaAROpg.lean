/-
  What came in, opened: pages. The law FnExactPagesFault answers true.
-/
import Derived.Test.YteebbaleejbodaaARPgs
import Derived.Test.YteebbaleejbodaaARMfa
import Derived.Deep.SlicePairs
import Derived.OpenShut
import Derived.ProofKit

namespace Go.Proofs.Yteebbaleejbodaa
open Go.ChangeShapes Go.WideShapes Go.RowKit
set_option linter.unusedVariables false

theorem open_bytes_one {H : Type} {enc : TypeId × Value → H} {W : World} {base : Nat} {held : Bool} {fuel : Nat} {v : Value} {x : DataW H × List MemPlace}
    (h : DataW.trod enc Try.prog W base (fun _ => true) held fuel 106 [v] = some x) : ∃ a zs c, v = .slice a zs.length c ∧ zs.length ≤ c ∧ zs.length ≤ 9223372036854775807 ∧ Reads W a zs ∧ ∀ z ∈ zs, 0 ≤ z ∧ z ≤ 255 := by
  have hml : maxLen = 9223372036854775807 := by decide
  rcases open_ints Try.underlying106 Try.underlying5 (by kernel_rfl) h with ⟨hcs, _⟩ | ⟨u, l', c', zs, hcs, _, hl', hm', hz, _, hc', hwz⟩
  · simp only [List.cons.injEq, and_true] at hcs
    exact ⟨none, [], 0, hcs, Nat.le_refl _, by simp, .inl rfl, fun z hz => by simp at hz⟩
  · simp only [List.cons.injEq, and_true] at hcs
    have hrow : IsRow .u8 W (some u) l' c' zs := .inr ⟨u, rfl, hl', hm', by simpa using hz, hc', hwz⟩
    obtain ⟨h1, h2, h3, h4⟩ := isRow_reads hrow
    exact ⟨some u, zs.take l', c', by rw [hcs]; simp only [h1], by rw [h1]; exact h2, by rw [h1]; omega, h3, h4⟩

theorem open_pages {H : Type} {enc : TypeId × Value → H} {W : World} {base : Nat} {held : Bool} {fuel : Nat} {a : Option Addr} {len cap : Nat} {x : DataW H × List MemPlace}
    (h : DataW.trod enc Try.prog W base (fun _ => true) held fuel 35 [.slice a len cap] = some x) : ∃ ps, IsPages W a len ps := by
  have hml : maxLen = 9223372036854775807 := by decide
  rcases Go.Deep.open_slice Try.underlying35 h with ⟨hcs, _⟩ | ⟨y, l, c, m, n, Dd, Pl, hcs, hb, hl, hm, hmm, _, hx⟩
  · simp only [List.cons.injEq, Value.slice.injEq, and_true] at hcs
    obtain ⟨rfl, rfl, rfl⟩ := hcs
    exact ⟨[], .inl rfl, rfl, by omega, fun r hr => by simp at hr⟩
  · simp only [List.cons.injEq, Value.slice.injEq, and_true] at hcs
    obtain ⟨rfl, rfl, rfl⟩ := hcs
    simp only [if_true] at hmm
    subst hmm
    have ce : Try.prog.cellsOf 106 = 1 := by kernel_rfl
    have each : ∀ i, i < len → ∃ q : Option Addr × List Int × Nat, W.cell? (y.add i) = some (.slice q.1 q.2.1.length q.2.2) ∧ q.2.1.length ≤ q.2.2 ∧ q.2.1.length ≤ 9223372036854775807 ∧ Reads W q.1 q.2.1 ∧ ∀ z ∈ q.2.1, 0 ≤ z ∧ z ≤ 255 := by
      intro i hi
      obtain ⟨cs', h1, h2⟩ := hx i (by omega)
      rw [ce] at h1
      obtain ⟨_, hlen, hcell⟩ := World.cells?_some h1
      obtain ⟨v, rfl⟩ : ∃ v, cs' = [v] := by
        match cs', hlen with
        | [v], _ => exact ⟨v, rfl⟩
      obtain ⟨a', zs, c', rfl, h3, h4, h5, h6⟩ := open_bytes_one h2
      have k0 := hcell 0 (by omega)
      rw [Go.Deep.add_add] at k0
      exact ⟨(a', zs, c'), by simpa using k0, h3, h4, h5, h6⟩
    obtain ⟨q, hq⟩ := Go.Deep.choose_lt each
    refine ⟨(List.range len).map (fun i => (q i).2.1), ?_, by simp, by omega, ?_⟩
    · by_cases h0 : len = 0
      · subst h0; exact .inl rfl
      · obtain ⟨b, off, spot⟩ := y
        have hc0 := (hq 0 (by omega)).1
        have hspot : spot = none := by simpa [Addr.add] using World.cell?_spot hc0
        subst hspot
        have ea : ∀ i, (⟨b, off, none⟩ : Addr).add i = ⟨b, off + i, none⟩ := by intro i; unfold Addr.add; split <;> simp_all
        refine .inr ⟨b, off, rfl, fun i r hr => ?_⟩
        obtain ⟨hi, rfl⟩ := list_of_fun (fun i => (q i).2.1) len hr
        obtain ⟨q0, q1, _, q3, _⟩ := hq i hi
        rw [ea] at q0
        exact ⟨_, _, q0, q1, q3⟩
    · intro r hr
      obtain ⟨i, hi, rfl⟩ := List.mem_map.1 hr
      obtain ⟨_, _, q2, _, q4⟩ := hq i (by simpa using hi)
      exact ⟨q2, q4⟩

end Go.Proofs.Yteebbaleejbodaa

/-
  Pages marked: markByteSS.
-/
namespace Go.Proofs.Yteebbaleejbodaa
open Go.RowKit
set_option linter.unusedVariables false

theorem Turned.widen {lo hi lo' hi' : Nat} {w w' : World} (h : Turned lo hi w w') (h1 : lo' ≤ lo) (h2 : hi ≤ hi') : Turned lo' hi' w w' := ⟨h.os, h.tape, h.output, h.size, fun k hk hn => h.block k hk (by omega)⟩

set_option maxHeartbeats 1000000 in
theorem markByteSS_any (g n c hi : Nat) (ps : List (List Int)) (F : Nat → Nat) (w : World) (hn : ps.length = n) (hm : n ≤ 1048576) (hp : PgOk ps) (hP : PartP w g n n ps F) (hhi : ∀ i zs, i < n → ps[i]? = some zs → zs ≠ [] → F i < hi) :
    Calls Try.prog 28 #[.slice (some ⟨g, 0, none⟩) n c, .int .i64 1] w fun e w' => ∃ r : Int, e = .returned (.int .i64 r) ∧ (0 ≤ r ∧ r ≤ 1100000000000) ∧ Turned (g + 1) hi w w' := by
  have HN : Hid (ps.length = n) := hn
  have HP : Hid (PgOk ps) := hp
  have HPt : Hid (PartP w g n n ps F) := hP
  have HHi : Hid (∀ i zs, i < n → ps[i]? = some zs → zs ≠ [] → F i < hi) := hhi
  clear hn hp hP hhi
  go_enter Try.func28, Try.ntmps28
  go_wp2_with fail
  go_loopw [5, 1] (fun i kk wr => ∃ (j : Nat) (r : Int), j ≤ n ∧ i = .int .i64 j ∧ kk = .int .i64 r ∧ 0 ≤ r ∧ r ≤ 1 + 1048576 * j ∧ Turned (g + 1) hi w wr ∧ Hid (∀ i zs, j ≤ i → ps[i]? = some zs → BytesIn (F i) (F i + 1) wr (some ⟨F i, 0, none⟩) zs)) (fun i _ _ => n - (intOf i).toNat)
  case atStart => exact ⟨0, 1, Nat.zero_le _, rfl, rfl, by omega, by omega, Turned.refl _ _ _, fun i zs _ hz => (HPt.out.c i zs (by rw [← HN.out]; exact (List.getElem?_eq_some_iff.1 hz).1) hz).2⟩
  case round =>
    obtain ⟨j, r, hj, rfl, rfl, hr0, hr1, ht, hB⟩ := hrel
    by_cases hlt : j < n
    · obtain ⟨zs, hzs⟩ := at_lt' (rs := ps) (i := j) (by rw [HN.out]; exact hlt)
      have hz1 := (HP.out zs (List.mem_of_getElem? hzs)).1
      have c0 := ht.cell (HPt.out.c j zs hlt hzs).1 (.inl (by simp))
      have hb := hB.out j zs (Nat.le_refl _) hzs
      have hFg := HPt.out.fr j hlt
      have hjn : (j : Int) < (n : Int) := by omega
      have hrb : r ≤ 140737488351232 := by omega
      by_cases hne : zs = []
      · subst hne
        have hb0 : BytesIn 0 0 wr (some ⟨F j, 0, none⟩) [] := .inl rfl
        go_wp2_with fail
        refine (markByteS_any _ 0 0 [] 0 0 r _ rfl (by omega) hr0 hrb hb0).mono ?_
        rintro e w2 ⟨rfl, t2, _⟩
        have HB2 : Hid (∀ i zs, j + 1 ≤ i → ps[i]? = some zs → BytesIn (F i) (F i + 1) w2 (some ⟨F i, 0, none⟩) zs) := fun i zs hi hz => (hB.out i zs (by omega) hz).turned t2 (.inr (Nat.zero_le _))
        have ht2 := ht.trans (Turned.widen (lo' := g + 1) (hi' := hi) ⟨t2.os, t2.tape, t2.output, t2.size, fun k hk _ => t2.block k hk (by omega)⟩ (Nat.le_refl _) (Nat.le_refl _))
        clear t2 c0 hb hb0 ht hB
        go_wp2_with fail
        go_roundw
        case rel => exact ⟨j + 1, r, by omega, by go_num, by simp, hr0, by omega, ht2, HB2⟩
        case measure => simp [intOf]; omega
      · have hFl := HHi.out j zs hlt hzs hne
        obtain ⟨zl, hzl⟩ : ∃ zl, zl = zs.length := ⟨_, rfl⟩
        rw [← hzl] at c0
        have hzl2 : zl ≤ 1048576 := by rw [hzl]; exact hz1
        have HZ : Hid (zs.length = zl) := hzl.symm
        clear hzl hz1
        go_wp2_with fail
        refine (markByteS_any _ (F j) (F j + 1) zs zl zl r _ HZ.out (by omega) hr0 hrb hb).mono ?_
        rintro e w2 ⟨rfl, t2, _⟩
        have HB2 : Hid (∀ i zs, j + 1 ≤ i → ps[i]? = some zs → BytesIn (F i) (F i + 1) w2 (some ⟨F i, 0, none⟩) zs) := fun i ys hi hz => by
          have hil : i < n := by rw [← HN.out]; exact (List.getElem?_eq_some_iff.1 hz).1
          have := HPt.out.ne j i zs (by omega) hil hzs hne
          exact (hB.out i ys (by omega) hz).turned t2 (.inr (by omega))
        have ht2 := ht.trans (t2.widen (lo' := g + 1) (hi' := hi) (by omega) (by omega))
        clear t2 c0 hb ht hB
        go_wp2_with fail
        go_roundw
        case rel => exact ⟨j + 1, r + zl, by omega, by go_num, rfl, by omega, by omega, ht2, HB2⟩
        case measure => simp [intOf]; omega
    · have e : j = n := by omega
      subst e
      go_wp2_with fail
      go_ret
      exact ⟨r, rfl, ⟨hr0, by omega⟩, ht⟩

end Go.Proofs.Yteebbaleejbodaa
