/-
  The program's ReadRecord.
-/
import Derived.Test.YtcjkjenebnodbaaDoorSL4r
import Derived.Deep.Cut

namespace Go.Proofs.YtcjkjenebnodbaaDoor
open Go.RowKit
set_option linter.unusedVariables false

/-- What ReadRecord answers. -/
def qR (zs : List Int) : Int := if OkI zs then 0 else 5
def uR (zs : List Int) : Nat := if OkI zs then len0 zs else 0
def kR (zs : List Int) (i : Nat) : Int := if OkI zs then zs.getD i 0 else 0
def nR (zs : List Int) : Nat := if OkI zs then cnt zs else 0
def RRPost (w : World) (zs : List Int) (e : Ending) (w' : World) : Prop := ∃ a c A C F, e = .returned (.agg #[.int .i64 (qR zs), .int .i64 (uR zs), .int .i64 (kR zs 1), .int .i64 (kR zs 2), .int .i64 (kR zs 3), .slice a (nR zs) c]) ∧ Below w.heap.size w w' ∧ OwnS w.heap.size w'.heap.size w' a (nR zs) (rP zs) A C (rZ zs) F

theorem rr_no {zs : List Int} (h : ¬ OkI zs) : qR zs = 5 ∧ uR zs = 0 ∧ kR zs 1 = 0 ∧ kR zs 2 = 0 ∧ kR zs 3 = 0 ∧ nR zs = 0 := by
  unfold qR uR kR nR
  simp only [if_neg h, and_self]
theorem rr_yes {zs : List Int} (h : OkI zs) : qR zs = 0 ∧ uR zs = len0 zs ∧ kR zs 1 = zs.getD 1 0 ∧ kR zs 2 = zs.getD 2 0 ∧ kR zs 3 = zs.getD 3 0 ∧ nR zs = cnt zs := by
  unfold qR uR kR nR
  simp only [if_pos h, and_self]

theorem Dlt.readsAt {n₀ : Nat} {W : World} {a : Option Addr} {c k : Nat} {P : Nat → Int} {V : Nat → Value} {Z : Nat → List Int} {B : Nat → Nat} (h : Dlt n₀ W (.slice a k c) k P V Z B) : ∃ A C, RunsRead W a k P A C Z := by
  obtain ⟨a', c', A, C, e, hr⟩ := h.reads
  simp only [Value.slice.injEq, true_and] at e
  obtain ⟨rfl, rfl⟩ := e
  exact ⟨A, C, hr⟩
theorem Dlt.ownAt {n₀ : Nat} {W : World} {a : Option Addr} {c k : Nat} {P : Nat → Int} {V : Nat → Value} {Z : Nat → List Int} {B : Nat → Nat} (h : Dlt n₀ W (.slice a k c) k P V Z B) (hz : ∀ i, i < k → Z i ≠ []) : ∃ A C F, OwnS n₀ W.heap.size W a k P A C Z F := by
  obtain ⟨a', c', A, C, F, e, hr⟩ := h.own hz
  simp only [Value.slice.injEq, true_and] at e
  obtain ⟨rfl, rfl⟩ := e
  exact ⟨A, C, F, hr⟩
theorem rZ_bd {zs : List Int} (hz : ∀ z ∈ zs, 0 ≤ z ∧ z ≤ 255) (i : Nat) : ∀ z ∈ rZ zs i, 0 ≤ z ∧ z ≤ 255 := fun z h => hz z (List.mem_of_mem_drop (List.mem_of_mem_take h))
theorem rZ_small {zs : List Int} (hm : zs.length ≤ 1048576) (i : Nat) : (rZ zs i).length ≤ 1048576 := by
  unfold rZ
  rw [List.length_take, List.length_drop]
  omega
theorem cnt_le {zs : List Int} : cnt zs ≤ (zs.getD 4 0).toNat := by
  have := (rdC_le zs (zs.getD 4 0).toNat 0).2
  unfold cnt
  omega
theorem rz_ne {k tx pg : Int} {zs : List Int} (h : recQ k tx pg (cnt zs) (rP zs) (rZ zs) = 0) : ∀ i, i < cnt zs → rZ zs i ≠ [] := fun i hi e => by
  have h1 := (rf_ok (rec_ok h).2.2.2.2.2.2).2.1 i hi
  rw [e] at h1
  simp at h1

/-- The cells of the answer. -/
structure A6 (w : World) (V : World) : Prop where
  a0 : V.cell? ⟨w.heap.size, 0, none⟩ = some (.int .i64 0)
  a1 : V.cell? ⟨w.heap.size, 1, none⟩ = some (.int .i64 0)
  a2 : V.cell? ⟨w.heap.size, 2, none⟩ = some (.int .i64 0)
  a3 : V.cell? ⟨w.heap.size, 3, none⟩ = some (.int .i64 0)
  a4 : V.cell? ⟨w.heap.size, 4, none⟩ = some (.int .i64 0)
  a5 : V.cell? ⟨w.heap.size, 5, none⟩ = some (.slice none 0 0)
  f0 : V.frozen? ⟨w.heap.size, 0, none⟩ = false
  f1 : V.frozen? ⟨w.heap.size, 1, none⟩ = false
  f2 : V.frozen? ⟨w.heap.size, 2, none⟩ = false
  f3 : V.frozen? ⟨w.heap.size, 3, none⟩ = false
  f4 : V.frozen? ⟨w.heap.size, 4, none⟩ = false
  f5 : V.frozen? ⟨w.heap.size, 5, none⟩ = false
  g : Below w.heap.size w V
  s : w.heap.size + 1 ≤ V.heap.size
theorem A6.up {w V W : World} (h : A6 w V) (hb : Below V.heap.size V W) : A6 w W := by
  have hs := h.s
  exact ⟨cellUp hb h.a0, cellUp hb h.a1, cellUp hb h.a2, cellUp hb h.a3, cellUp hb h.a4, cellUp hb h.a5, (hb.frozen (by simp only; omega)).trans h.f0, (hb.frozen (by simp only; omega)).trans h.f1, (hb.frozen (by simp only; omega)).trans h.f2, (hb.frozen (by simp only; omega)).trans h.f3, (hb.frozen (by simp only; omega)).trans h.f4, (hb.frozen (by simp only; omega)).trans h.f5, h.g.trans (hb.mono h.g.size), Nat.le_trans hs hb.size⟩
theorem a6_new (w : World) : A6 w (w.alloc (.cells #[.int .i64 0, .int .i64 0, .int .i64 0, .int .i64 0, .int .i64 0, .slice none 0 0] 29)) :=
  ⟨by simp [go_sem], by simp [go_sem], by simp [go_sem], by simp [go_sem], by simp [go_sem], by simp [go_sem], by simp [go_sem], by simp [go_sem], by simp [go_sem], by simp [go_sem], by simp [go_sem], by simp [go_sem], by go_grown, by simp⟩

/-- A store into the answer's cells keeps what is appended. -/
theorem Dlt.six {n₀ : Nat} {W : World} {v : Value} {k : Nat} {P : Nat → Int} {V : Nat → Value} {Z : Nat → List Int} {B : Nat → Nat} (h : Dlt n₀ W v k P V Z B) {b : Nat} (hb : b < n₀) (x0 x1 x2 x3 x4 x5 : Value) :
    Dlt n₀ ((((((W.setCell ⟨b, 0, none⟩ x0).setCell ⟨b, 1, none⟩ x1).setCell ⟨b, 2, none⟩ x2).setCell ⟨b, 3, none⟩ x3).setCell ⟨b, 4, none⟩ x4).setCell ⟨b, 5, none⟩ x5) v k P V Z B :=
  (((((h.setLow hb x0).setLow hb x1).setLow hb x2).setLow hb x3).setLow hb x4).setLow hb x5

theorem A6.turned {w V W : World} {rb : Nat} (h : A6 w V) (ht : Turned rb (rb + 1) V W) (hb : w.heap.size < rb) : A6 w W := by
  have hs := h.s
  exact ⟨ht.cell h.a0 (.inl (by simp only; omega)), ht.cell h.a1 (.inl (by simp only; omega)), ht.cell h.a2 (.inl (by simp only; omega)), ht.cell h.a3 (.inl (by simp only; omega)), ht.cell h.a4 (.inl (by simp only; omega)), ht.cell h.a5 (.inl (by simp only; omega)), (ht.frozen h.a0 (.inl (by simp only; omega))).trans h.f0, (ht.frozen h.a1 (.inl (by simp only; omega))).trans h.f1, (ht.frozen h.a2 (.inl (by simp only; omega))).trans h.f2, (ht.frozen h.a3 (.inl (by simp only; omega))).trans h.f3, (ht.frozen h.a4 (.inl (by simp only; omega))).trans h.f4, (ht.frozen h.a5 (.inl (by simp only; omega))).trans h.f5, h.g.trans (ht.toBelow h.g.size (by omega)), Nat.le_trans hs ht.size⟩

set_option maxHeartbeats 4000000 in
theorem implReadRecord_any (zs : List Int) (a : Option Addr) (cap : Nat) (w : World) (hm : zs.length ≤ 1048576) (hcap : zs.length ≤ cap) (hcm : cap ≤ 9223372036854775807) (hf : Reads w a zs) (hz : ∀ z ∈ zs, 0 ≤ z ∧ z ≤ 255) :
    Calls Tryd.prog 7 #[.slice a zs.length cap] w fun e w' => RRPost w zs e w' := by
  by_cases h5 : zs.length < 5
  · have hno : ¬ OkI zs := fun h => by have := h.1; omega
    have HN := rr_no hno
    have HN : Hid (qR zs = 5 ∧ uR zs = 0 ∧ kR zs 1 = 0 ∧ kR zs 2 = 0 ∧ kR zs 3 = 0 ∧ nR zs = 0) := HN
    have h5' : (zs.length : Int) < 5 := by omega
    clear hno
    go_enter Tryd.func7, Tryd.ntmps7
    go_wp2_with fail
    refine bodyPost_ret (v := .agg #[.int .i64 5, .int .i64 0, .int .i64 0, .int .i64 0, .int .i64 0, .slice none 0 0]) (by simp [results, Tryd.results7, go_sem]) rfl ?_
    obtain ⟨e1, e2, e3, e4, e5, e6⟩ := HN.out
    exact ⟨none, 0, fun _ => none, fun _ => 0, fun _ => 0, by rw [e1, e2, e3, e4, e5, e6]; rfl, by go_grown, by rw [e6]; exact .inl rfl⟩
  obtain ⟨b, off, rfl, hfr⟩ : ∃ b off, a = some ⟨b, off, none⟩ ∧ From w b off zs 0 := by
    rcases hf with h | ⟨b, off, h, hc⟩
    · rw [h] at h5; simp at h5
    · exact ⟨b, off, h, fun i hi => by rw [Nat.zero_add] at hi ⊢; exact hc i hi⟩
  have HB : Hid (∀ i, i < zs.length → 0 ≤ zs.getD i 0 ∧ zs.getD i 0 ≤ 255) := fun i hi => hz _ (by simp [List.getD, List.getElem?_eq_getElem hi])
  have HF : Hid (∀ X, Below w.heap.size w X → From X b off zs 0) := fun X gX i hi => (gX.cell (World.block_lt_of_cell? w _ (hfr i hi))).trans (hfr i hi)
  obtain ⟨x1, hx1⟩ : ∃ x : Nat, zs.getD 1 0 = (x : Int) := ⟨(zs.getD 1 0).toNat, by have := HB.out 1 (by omega); omega⟩
  obtain ⟨x2, hx2⟩ : ∃ x : Nat, zs.getD 2 0 = (x : Int) := ⟨(zs.getD 2 0).toNat, by have := HB.out 2 (by omega); omega⟩
  obtain ⟨x3, hx3⟩ : ∃ x : Nat, zs.getD 3 0 = (x : Int) := ⟨(zs.getD 3 0).toNat, by have := HB.out 3 (by omega); omega⟩
  obtain ⟨cn, hcn⟩ : ∃ x : Nat, zs.getD 4 0 = (x : Int) := ⟨(zs.getD 4 0).toNat, by have := HB.out 4 (by omega); omega⟩
  have hb1 : x1 ≤ 255 := by have := HB.out 1 (by omega); omega
  have hb2 : x2 ≤ 255 := by have := HB.out 2 (by omega); omega
  have hb3 : x3 ≤ 255 := by have := HB.out 3 (by omega); omega
  have hb4 : cn ≤ 255 := by have := HB.out 4 (by omega); omega
  have hw1 : IntKind.i64.wrap (x1 : Int) = (x1 : Int) := by rw [IntKind.wrap_i64]; omega
  have hw2 : IntKind.i64.wrap (x2 : Int) = (x2 : Int) := by rw [IntKind.wrap_i64]; omega
  have hw3 : IntKind.i64.wrap (x3 : Int) = (x3 : Int) := by rw [IntKind.wrap_i64]; omega
  have HCn : Hid ((cn : Int) = zs.getD 4 0) := hcn.symm
  have HCl : Hid (cnt zs ≤ 255) := by show _ ≤ _; have := cnt_le (zs := zs); rw [hcn] at this; omega
  have HX : Hid (zs.getD 1 0 = (x1 : Int) ∧ zs.getD 2 0 = (x2 : Int) ∧ zs.getD 3 0 = (x3 : Int)) := ⟨hx1, hx2, hx3⟩
  have HZ : Hid (∀ z ∈ zs, 0 ≤ z ∧ z ≤ 255) := hz
  have HSe : Hid (∀ X, Below w.heap.size w X → X.cell? ⟨b, off + 1, none⟩ = some (.int .u8 x1) ∧ X.cell? ⟨b, off + 2, none⟩ = some (.int .u8 x2) ∧ X.cell? ⟨b, off + 3, none⟩ = some (.int .u8 x3) ∧ X.cell? ⟨b, off + 4, none⟩ = some (.int .u8 cn) ∧ Below w.heap.size w X) := fun X gX => by
    have h1 := HF.out X gX 1 (by omega)
    have h2 := HF.out X gX 2 (by omega)
    have h3 := HF.out X gX 3 (by omega)
    have h4 := HF.out X gX 4 (by omega)
    rw [Nat.zero_add] at h1 h2 h3 h4
    rw [hx1] at h1
    rw [hx2] at h2
    rw [hx3] at h3
    rw [hcn] at h4
    exact ⟨h1, h2, h3, h4, gX⟩
  obtain ⟨so, hso, hfs⟩ : ∃ so, (if cap = 5 then (some ⟨b, off, none⟩ : Option Addr) else some ⟨b, off + 5, none⟩) = some ⟨b, so, none⟩ ∧ ∀ X, Below w.heap.size w X → From X b so zs 5 := by
    by_cases hd : cap = 5
    · exact ⟨off, by rw [if_pos hd], fun X _ => From.empty (by omega)⟩
    · refine ⟨off + 5, by rw [if_neg hd], fun X gX => ?_⟩
      have h1 := (HF.out X gX).step 5
      rw [Nat.zero_add] at h1
      exact h1
  have HSo : Hid ((if cap = 5 then (some ⟨b, off, none⟩ : Option Addr) else some ⟨b, off + 5, none⟩) = some ⟨b, so, none⟩) := hso
  have HFs : Hid (∀ X, Below w.heap.size w X → From X b so zs 5) := hfs
  obtain ⟨n, hn⟩ : ∃ n, n = zs.length := ⟨_, rfl⟩
  have HNn : Hid (zs.length = n) := hn.symm
  rw [← hn] at h5 hm hcap ⊢
  have h5 : 5 ≤ n := by omega
  have h5' : ¬ ((n : Int) < 5) := by omega
  have l1 : (1 : Int) < (n : Int) := by omega
  have l2 : (2 : Int) < (n : Int) := by omega
  have l3 : (3 : Int) < (n : Int) := by omega
  have l4 : (4 : Int) < (n : Int) := by omega
  have l5 : (5 : Int) ≤ (n : Int) := by omega
  have HRr : Hid (∀ X, Below w.heap.size w X → Calls Tryd.prog 26 #[.slice (some ⟨b, so, none⟩) (n - 5) (cap - 5), .int .u8 cn] X fun e w' => RdPost X zs e w') := fun X gX => by
    have h := readRuns_any zs b so (cap - 5) cn X (by omega) (by omega) (by omega) (by omega) (HFs.out X gX) HZ.out HCn.out
    rw [HNn.out] at h
    exact h
  clear hx1 hx2 hx3 hcn hf hfr hz hn hso hfs
  go_enter Tryd.func7, Tryd.ntmps7
  go_upto_region 1 with (fail)
  have hA := a6_new w
  generalize w.alloc (.cells #[.int .i64 0, .int .i64 0, .int .i64 0, .int .i64 0, .int .i64 0, .slice none 0 0] 29) = Y at hA ⊢
  go_upto_region 3 with (fail)
  go_cut [3] from 5 (fun s3 wc => ∃ (rb : Nat) (a7 : Option Addr) (c7 : Nat) (V7 : Nat → Value) (B7 : Nat → Nat), s3 = .pointer (some ⟨rb, 0, none⟩) ∧ A6 w wc ∧ Dlt (w.heap.size + 1) wc (.slice a7 (cnt zs) c7) (cnt zs) (rP zs) V7 (rZ zs) B7 ∧ RcAt wc rb x1 x2 x3 a7 (cnt zs) c7)
  case first =>
      refine wp_region_held_drew (S := fun X => X.cell? ⟨b, off + 1, none⟩ = some (.int .u8 x1) ∧ X.cell? ⟨b, off + 2, none⟩ = some (.int .u8 x2) ∧ X.cell? ⟨b, off + 3, none⟩ = some (.int .u8 x3) ∧ X.cell? ⟨b, off + 4, none⟩ = some (.int .u8 cn) ∧ Below w.heap.size w X) (by kernel_rfl) (HSe.out _ hA.g.drew) (fun hHeld => ?_)
      have hA := hA.up (show Below Y.heap.size Y Y.drew from (Below.refl _ _).drew)
      generalize Y.drew = D at hHeld hA ⊢
      refine wpAnyH_take (i := 0) (v := ?v1) rfl (by kernel_rfl) (by kernel_rfl) (by kernel_rfl) (fun _ _ _ h => h) (Or.inl ⟨by kernel_rfl, ?h1⟩) hHeld ?_
      case h1 => intro u hSw; (try dsimp only at hSw); go_simp; try with_reducible rfl
      try simp only [List.getElem_toArray]
      try simp only [List.getElem_cons_succ]
      try simp only [List.getElem_cons_zero]
      try simp only [Act.put]
      try simp only [List.setIfInBounds_toArray]
      try simp only [List.set]
      refine wpAnyH_take (i := 1) (v := ?v2) rfl (by kernel_rfl) (by kernel_rfl) (by kernel_rfl) (fun _ _ _ h => h) (Or.inl ⟨by kernel_rfl, ?h2⟩) hHeld ?_
      case h2 => intro u hSw; (try dsimp only at hSw); go_simp; try with_reducible rfl
      try simp only [List.getElem_toArray]
      try simp only [List.getElem_cons_succ]
      try simp only [List.getElem_cons_zero]
      try simp only [Act.put]
      try simp only [List.setIfInBounds_toArray]
      try simp only [List.set]
      refine wpAnyH_take (i := 2) (v := ?v3) rfl (by kernel_rfl) (by kernel_rfl) (by kernel_rfl) (fun _ _ _ h => h) (Or.inl ⟨by kernel_rfl, ?h3⟩) hHeld ?_
      case h3 => intro u hSw; obtain ⟨e1, e2, e3, e4, _⟩ := hSw; go_simp; try with_reducible rfl
      try simp only [List.getElem_toArray]
      try simp only [List.getElem_cons_succ]
      try simp only [List.getElem_cons_zero]
      try simp only [Act.put]
      try simp only [List.setIfInBounds_toArray]
      try simp only [List.set]
      refine wpAnyH_take (i := 3) (v := ?v4) rfl (by kernel_rfl) (by kernel_rfl) (by kernel_rfl) (fun _ _ _ h => h) (Or.inl ⟨by kernel_rfl, ?h4⟩) hHeld ?_
      case h4 => intro u hSw; (try dsimp only at hSw); go_simp; try with_reducible rfl
      try simp only [List.getElem_toArray]
      try simp only [List.getElem_cons_succ]
      try simp only [List.getElem_cons_zero]
      try simp only [Act.put]
      try simp only [List.setIfInBounds_toArray]
      try simp only [List.set]
      refine wpAnyH_take (i := 4) (v := ?v5) rfl (by kernel_rfl) (by kernel_rfl) (by kernel_rfl) (fun _ _ _ h => h) (Or.inl ⟨by kernel_rfl, ?h5⟩) hHeld ?_
      case h5 => intro u hSw; (try dsimp only at hSw); go_simp; try with_reducible rfl
      try simp only [List.getElem_toArray]
      try simp only [List.getElem_cons_succ]
      try simp only [List.getElem_cons_zero]
      try simp only [Act.put]
      try simp only [List.setIfInBounds_toArray]
      try simp only [List.set]
      refine wpAnyH_take (i := 5) (v := ?v6) rfl (by kernel_rfl) (by kernel_rfl) (by kernel_rfl) (fun _ _ _ h => h) (Or.inl ⟨by kernel_rfl, ?h6⟩) hHeld ?_
      case h6 => intro u hSw; (try dsimp only at hSw); go_simp; try with_reducible rfl
      try simp only [List.getElem_toArray]
      try simp only [List.getElem_cons_succ]
      try simp only [List.getElem_cons_zero]
      try simp only [Act.put]
      try simp only [List.setIfInBounds_toArray]
      try simp only [List.set]
      refine wpAnyH_take (i := 6) (v := ?v7) rfl (by kernel_rfl) (by kernel_rfl) (by kernel_rfl) (fun _ _ _ h => h) (Or.inl ⟨by kernel_rfl, ?h7⟩) hHeld ?_
      case h7 => intro u hSw; obtain ⟨e1, e2, e3, e4, _⟩ := hSw; go_simp; try with_reducible rfl
      try simp only [List.getElem_toArray]
      try simp only [List.getElem_cons_succ]
      try simp only [List.getElem_cons_zero]
      try simp only [Act.put]
      try simp only [List.setIfInBounds_toArray]
      try simp only [List.set]
      refine wpAnyH_take (i := 7) (v := ?v8) rfl (by kernel_rfl) (by kernel_rfl) (by kernel_rfl) (fun _ _ _ h => h) (Or.inl ⟨by kernel_rfl, ?h8⟩) hHeld ?_
      case h8 => intro u hSw; (try dsimp only at hSw); go_simp; try with_reducible rfl
      try simp only [List.getElem_toArray]
      try simp only [List.getElem_cons_succ]
      try simp only [List.getElem_cons_zero]
      try simp only [Act.put]
      try simp only [List.setIfInBounds_toArray]
      try simp only [List.set]
      refine wpAnyH_take (i := 8) (v := ?v9) rfl (by kernel_rfl) (by kernel_rfl) (by kernel_rfl) (fun _ _ _ h => h) (Or.inl ⟨by kernel_rfl, ?h9⟩) hHeld ?_
      case h9 => intro u hSw; (try dsimp only at hSw); go_simp; try with_reducible rfl
      try simp only [List.getElem_toArray]
      try simp only [List.getElem_cons_succ]
      try simp only [List.getElem_cons_zero]
      try simp only [Act.put]
      try simp only [List.setIfInBounds_toArray]
      try simp only [List.set]
      refine wpAnyH_take (i := 9) (v := ?v10) rfl (by kernel_rfl) (by kernel_rfl) (by kernel_rfl) (fun _ _ _ h => h) (Or.inl ⟨by kernel_rfl, ?h10⟩) hHeld ?_
      case h10 => intro u hSw; (try dsimp only at hSw); go_simp; try with_reducible rfl
      try simp only [List.getElem_toArray]
      try simp only [List.getElem_cons_succ]
      try simp only [List.getElem_cons_zero]
      try simp only [Act.put]
      try simp only [List.setIfInBounds_toArray]
      try simp only [List.set]
      refine wpAnyH_take (i := 10) (v := ?v11) rfl (by kernel_rfl) (by kernel_rfl) (by kernel_rfl) (fun _ _ _ h => h) (Or.inl ⟨by kernel_rfl, ?h11⟩) hHeld ?_
      case h11 => intro u hSw; obtain ⟨e1, e2, e3, e4, _⟩ := hSw; go_simp; try with_reducible rfl
      try simp only [List.getElem_toArray]
      try simp only [List.getElem_cons_succ]
      try simp only [List.getElem_cons_zero]
      try simp only [Act.put]
      try simp only [List.setIfInBounds_toArray]
      try simp only [List.set]
      refine wpAnyH_take (i := 11) (v := ?v12) rfl (by kernel_rfl) (by kernel_rfl) (by kernel_rfl) (fun _ _ _ h => h) (Or.inl ⟨by kernel_rfl, ?h12⟩) hHeld ?_
      case h12 => intro u hSw; (try dsimp only at hSw); go_simp; try with_reducible rfl
      try simp only [List.getElem_toArray]
      try simp only [List.getElem_cons_succ]
      try simp only [List.getElem_cons_zero]
      try simp only [Act.put]
      try simp only [List.setIfInBounds_toArray]
      try simp only [List.set]
      refine wpAnyH_take (i := 12) (v := ?v13) rfl (by kernel_rfl) (by kernel_rfl) (by kernel_rfl) (fun _ _ _ h => h) (Or.inl ⟨by kernel_rfl, ?h13⟩) hHeld ?_
      case h13 => intro u hSw; (try dsimp only at hSw); go_simp; try with_reducible rfl
      try simp only [List.getElem_toArray]
      try simp only [List.getElem_cons_succ]
      try simp only [List.getElem_cons_zero]
      try simp only [Act.put]
      try simp only [List.setIfInBounds_toArray]
      try simp only [List.set]
      refine wpAnyH_take (i := 13) (v := ?v14) rfl (by kernel_rfl) (by kernel_rfl) (by kernel_rfl) (fun _ _ _ h => h) (Or.inl ⟨by kernel_rfl, ?h14⟩) hHeld ?_
      case h14 => intro u hSw; (try dsimp only at hSw); go_simp; try with_reducible rfl
      try simp only [List.getElem_toArray]
      try simp only [List.getElem_cons_succ]
      try simp only [List.getElem_cons_zero]
      try simp only [Act.put]
      try simp only [List.setIfInBounds_toArray]
      try simp only [List.set]
      refine wpAnyH_take (i := 14) (v := ?v15) rfl (by kernel_rfl) (by kernel_rfl) (by kernel_rfl) (fun _ _ _ h => h) (Or.inl ⟨by kernel_rfl, ?h15⟩) hHeld ?_
      case h15 => intro u hSw; (try dsimp only at hSw); go_simp; try with_reducible rfl
      try simp only [List.getElem_toArray]
      try simp only [List.getElem_cons_succ]
      try simp only [List.getElem_cons_zero]
      try simp only [Act.put]
      try simp only [List.setIfInBounds_toArray]
      try simp only [List.set]
      refine wpAnyH_take (i := 15) (v := ?v16) rfl (by kernel_rfl) (by kernel_rfl) (by kernel_rfl) (fun _ _ _ h => h) (Or.inl ⟨by kernel_rfl, ?h16⟩) hHeld ?_
      case h16 => intro u hSw; (try dsimp only at hSw); go_simp; try with_reducible rfl
      try simp only [List.getElem_toArray]
      try simp only [List.getElem_cons_succ]
      try simp only [List.getElem_cons_zero]
      try simp only [Act.put]
      try simp only [List.setIfInBounds_toArray]
      try simp only [List.set]
      refine wpAnyH_take (i := 16) (v := ?v17) rfl (by kernel_rfl) (by kernel_rfl) (by kernel_rfl) (fun _ _ _ h => h) (Or.inl ⟨by kernel_rfl, ?h17⟩) hHeld ?_
      case h17 => intro u hSw; obtain ⟨e1, e2, e3, e4, _⟩ := hSw; go_simp; try with_reducible rfl
      try simp only [List.getElem_toArray]
      try simp only [List.getElem_cons_succ]
      try simp only [List.getElem_cons_zero]
      try simp only [Act.put]
      try simp only [List.setIfInBounds_toArray]
      try simp only [List.set]
      rw [HSo.out]
      refine wpAnyH_ready (rs := [17, 19]) (by kernel_rfl) (by simp) ?_
      refine AllReadyH.cons rfl (fun K hK => ?_) (AllReadyH.cons rfl (fun K hK => ?_) AllReadyH.nil)
      · go_simp
        go_wp2_with (go_at_call 26; refine (HRr.out _ hA.g).mono ?_; rintro e w7 ⟨v7, V7, B7, rfl, g7, hD7⟩)
        obtain ⟨a7, c7, hv7⟩ := hD7.form
        subst hv7
        have hA7 := hA.up g7
        refine hK.out _ _ (HSe.out _ hA7.g) (fun hHeld => ?_)
        clear hK K
        try simp only [Act.put]
        try simp only [List.setIfInBounds_toArray]
        try simp only [List.set]
        refine wpAnyH_take (i := 18) (v := ?v18) rfl (by kernel_rfl) (by kernel_rfl) (by kernel_rfl) (fun _ _ _ h => h) (Or.inl ⟨by kernel_rfl, ?h18⟩) hHeld ?_
        case h18 => intro u hSw; (try dsimp only at hSw); go_simp; try with_reducible rfl
        try simp only [List.getElem_toArray]
        try simp only [List.getElem_cons_succ]
        try simp only [List.getElem_cons_zero]
        try simp only [Act.put]
        try simp only [List.setIfInBounds_toArray]
        try simp only [List.set]
        have gb : Below w7.heap.size w7 (w7.alloc (.cells #[.int .i64 0, .int .i64 0, .int .i64 0, .slice none 0 0] 27)) := by go_grown
        have gc : Below w7.heap.size w7 (w7.alloc (.cells #[.int .i64 x1, .int .i64 x2, .int .i64 x3, .slice a7 (cnt zs) c7] 27)) := by go_grown
        have hA8 := hA7.up gb
        have hA9 := hA7.up gc
        have hD9 := (hD7.below gc).mono (n₁ := w.heap.size + 1) hA.s
        have hR9 : RcAt (w7.alloc (.cells #[.int .i64 x1, .int .i64 x2, .int .i64 x3, .slice a7 (cnt zs) c7] 27)) w7.heap.size x1 x2 x3 a7 (cnt zs) c7 := ⟨by simp [go_sem], by simp [go_sem], by simp [go_sem], by simp [go_sem]⟩
        refine wpAnyH_ready (rs := [19]) (by kernel_rfl) (by simp) ?_
        refine AllReadyH.cons rfl (fun K hK => ?_) AllReadyH.nil
        go_simp
        refine hK.out _ _ (HSe.out _ hA8.g) (fun hHeld => ?_)
        clear hK K
        try simp only [Act.put]
        try simp only [List.setIfInBounds_toArray]
        try simp only [List.set]
        refine wpAnyH_ready (rs := [20]) (by kernel_rfl) (by simp) ?_
        refine AllReadyH.cons rfl (fun K hK => ?_) AllReadyH.nil
        go_simp
        refine hK.out _ _ (HSe.out _ hA9.g) (fun hHeld => ?_)
        clear hK K hHeld gb gc
        try simp only [Act.put]
        try simp only [List.setIfInBounds_toArray]
        try simp only [List.set]
        refine wpAnyH_done (by kernel_rfl) ?_ _
        go_wp2_with fail
        go_meet
        case rel => exact ⟨_, a7, c7, V7, B7, rfl, hA9, hD9, hR9⟩
      · have gb : Below D.heap.size D (D.alloc (.cells #[.int .i64 0, .int .i64 0, .int .i64 0, .slice none 0 0] 27)) := by go_grown
        have hAb := hA.up gb
        have b0 : (D.alloc (.cells #[.int .i64 0, .int .i64 0, .int .i64 0, .slice none 0 0] 27)).cell? ⟨D.heap.size, 0, none⟩ = some (.int .i64 0) := by simp [go_sem]
        have b1 : (D.alloc (.cells #[.int .i64 0, .int .i64 0, .int .i64 0, .slice none 0 0] 27)).cell? ⟨D.heap.size, 1, none⟩ = some (.int .i64 0) := by simp [go_sem]
        have b2 : (D.alloc (.cells #[.int .i64 0, .int .i64 0, .int .i64 0, .slice none 0 0] 27)).cell? ⟨D.heap.size, 2, none⟩ = some (.int .i64 0) := by simp [go_sem]
        have b3 : (D.alloc (.cells #[.int .i64 0, .int .i64 0, .int .i64 0, .slice none 0 0] 27)).cell? ⟨D.heap.size, 3, none⟩ = some (.slice none 0 0) := by simp [go_sem]
        have k0 : (D.alloc (.cells #[.int .i64 0, .int .i64 0, .int .i64 0, .slice none 0 0] 27)).frozen? ⟨D.heap.size, 0, none⟩ = false := by simp [go_sem]
        have k1 : (D.alloc (.cells #[.int .i64 0, .int .i64 0, .int .i64 0, .slice none 0 0] 27)).frozen? ⟨D.heap.size, 1, none⟩ = false := by simp [go_sem]
        have k2 : (D.alloc (.cells #[.int .i64 0, .int .i64 0, .int .i64 0, .slice none 0 0] 27)).frozen? ⟨D.heap.size, 2, none⟩ = false := by simp [go_sem]
        have k3 : (D.alloc (.cells #[.int .i64 0, .int .i64 0, .int .i64 0, .slice none 0 0] 27)).frozen? ⟨D.heap.size, 3, none⟩ = false := by simp [go_sem]
        have hEs : (D.alloc (.cells #[.int .i64 0, .int .i64 0, .int .i64 0, .slice none 0 0] 27)).heap.size = D.heap.size + 1 := by simp
        go_simp
        refine hK.out _ _ (HSe.out _ hAb.g) (fun hHeld => ?_)
        clear hK K gb
        have hDs := hA.s
        generalize D.alloc (.cells #[.int .i64 0, .int .i64 0, .int .i64 0, .slice none 0 0] 27) = E at hHeld hAb b0 b1 b2 b3 k0 k1 k2 k3 hEs ⊢
        generalize D.heap.size = rb at b0 b1 b2 b3 k0 k1 k2 k3 hEs hDs ⊢
        try simp only [Act.put]
        try simp only [List.setIfInBounds_toArray]
        try simp only [List.set]
        refine wpAnyH_ready (rs := [17]) (by kernel_rfl) (by simp) ?_
        refine AllReadyH.cons rfl (fun K hK => ?_) AllReadyH.nil
        go_simp
        go_wp2_with (go_at_call 26; refine (HRr.out _ hAb.g).mono ?_; rintro e w7 ⟨v7, V7, B7, rfl, g7, hD7⟩)
        obtain ⟨a7, c7, hv7⟩ := hD7.form
        subst hv7
        have hA7 := hAb.up g7
        refine hK.out _ _ (HSe.out _ hA7.g) (fun hHeld => ?_)
        clear hK K
        try simp only [Act.put]
        try simp only [List.setIfInBounds_toArray]
        try simp only [List.set]
        refine wpAnyH_take (i := 18) (v := ?v19) rfl (by kernel_rfl) (by kernel_rfl) (by kernel_rfl) (fun _ _ _ h => h) (Or.inl ⟨by kernel_rfl, ?h19⟩) hHeld ?_
        case h19 => intro u hSw; (try dsimp only at hSw); go_simp; try with_reducible rfl
        try simp only [List.getElem_toArray]
        try simp only [List.getElem_cons_succ]
        try simp only [List.getElem_cons_zero]
        try simp only [Act.put]
        try simp only [List.setIfInBounds_toArray]
        try simp only [List.set]
        have b0 := cellUp g7 b0
        have b1 := cellUp g7 b1
        have b2 := cellUp g7 b2
        have b3 := cellUp g7 b3
        have k0 := (g7.frozen (p := ⟨rb, 0, none⟩) (by simp only; omega)).trans k0
        have k1 := (g7.frozen (p := ⟨rb, 1, none⟩) (by simp only; omega)).trans k1
        have k2 := (g7.frozen (p := ⟨rb, 2, none⟩) (by simp only; omega)).trans k2
        have k3 := (g7.frozen (p := ⟨rb, 3, none⟩) (by simp only; omega)).trans k3
        have t9 : Turned rb (rb + 1) w7 ((((w7.setCell ⟨rb, 0, none⟩ (.int .i64 x1)).setCell ⟨rb, 1, none⟩ (.int .i64 x2)).setCell ⟨rb, 2, none⟩ (.int .i64 x3)).setCell ⟨rb, 3, none⟩ (.slice a7 (cnt zs) c7)) :=
          ((((Turned.refl _ _ w7).setCell (p := ⟨rb, 0, none⟩) (Nat.le_refl _) (Nat.lt_succ_self _) _).setCell (p := ⟨rb, 1, none⟩) (Nat.le_refl _) (Nat.lt_succ_self _) _).setCell (p := ⟨rb, 2, none⟩) (Nat.le_refl _) (Nat.lt_succ_self _) _).setCell (p := ⟨rb, 3, none⟩) (Nat.le_refl _) (Nat.lt_succ_self _) _
        have hA9 := hA7.turned t9 (by omega)
        have hD9 := ((((hD7.setLow (p := ⟨rb, 0, none⟩) (by simp only; omega) (.int .i64 x1)).setLow (p := ⟨rb, 1, none⟩) (by simp only; omega) (.int .i64 x2)).setLow (p := ⟨rb, 2, none⟩) (by simp only; omega) (.int .i64 x3)).setLow (p := ⟨rb, 3, none⟩) (by simp only; omega) (.slice a7 (cnt zs) c7)).mono (n₁ := w.heap.size + 1) (by omega)
        have hR9 : RcAt ((((w7.setCell ⟨rb, 0, none⟩ (.int .i64 x1)).setCell ⟨rb, 1, none⟩ (.int .i64 x2)).setCell ⟨rb, 2, none⟩ (.int .i64 x3)).setCell ⟨rb, 3, none⟩ (.slice a7 (cnt zs) c7)) rb x1 x2 x3 a7 (cnt zs) c7 := ⟨by simp [go_sem, b0], by simp [go_sem, b1], by simp [go_sem, b2], by simp [go_sem, b3]⟩
        refine wpAnyH_ready (rs := [20]) (by kernel_rfl) (by simp) ?_
        refine AllReadyH.cons rfl (fun K hK => ?_) AllReadyH.nil
        go_simp
        refine hK.out _ _ (HSe.out _ hA9.g) (fun hHeld => ?_)
        clear hK K hHeld b0 b1 b2 b3 k0 k1 k2 k3
        try simp only [Act.put]
        try simp only [List.setIfInBounds_toArray]
        try simp only [List.set]
        refine wpAnyH_done (by kernel_rfl) ?_ _
        go_wp2_with fail
        go_meet
        case rel => exact ⟨_, a7, c7, V7, B7, rfl, hA9, hD9, hR9⟩
  case rest =>
    obtain ⟨rb, a7, c7, V7, B7, rfl, hA, hD, hR⟩ := hcut
    obtain ⟨A7, C7, hrd⟩ := hD.readsAt
    have HZs : Hid (∀ i, i < cnt zs → (rZ zs i).length ≤ 1048576) := fun i _ => rZ_small (by rw [HNn.out]; exact hm) i
    have HZb : Hid (∀ i, i < cnt zs → ∀ z ∈ rZ zs i, 0 ≤ z ∧ z ≤ 255) := fun i _ => rZ_bd HZ.out i
    have HQe : Hid (rdQ zs = recQ x1 x2 x3 (cnt zs) (rP zs) (rZ zs)) := by show _ = _; unfold rdQ; rw [HX.out.1, HX.out.2.1, HX.out.2.2]
    have HBe : Hid (rdB zs = packB x1 x2 x3 (cnt zs) (rP zs) (rZ zs)) := by show _ = _; unfold rdB; rw [HX.out.1, HX.out.2.1, HX.out.2.2]
    obtain ⟨c0, c1, c2, c3⟩ := hR
    have hR : RcAt wc rb x1 x2 x3 a7 (cnt zs) c7 := ⟨c0, c1, c2, c3⟩
    go_wp2_with fail
    refine (implPackRecord_any x1 x2 x3 a7 (cnt zs) c7 (rP zs) A7 C7 (rZ zs) _ (by have := HCl.out; omega) HZs HZb hrd).mono ?_
    rintro e w4 ⟨a4, d4, rfl, hd4, g4, y4⟩
    have hA := hA.up g4
    have hD := hD.below g4
    have hR := hR.up g4
    clear g4 c0 c1 c2 c3 hrd
    obtain ⟨q, hq⟩ : ∃ q, q = recQ x1 x2 x3 (cnt zs) (rP zs) (rZ zs) := ⟨_, rfl⟩
    obtain ⟨us, hus⟩ : ∃ us, us = pkB x1 x2 x3 (cnt zs) (rP zs) (rZ zs) := ⟨_, rfl⟩
    obtain ⟨m, hmv⟩ : ∃ m, m = us.length := ⟨_, rfl⟩
    rw [← hus] at y4 hd4 ⊢
    rw [← hmv] at hd4 ⊢
    rw [← hq]
    have r4 := y4.reads
    have HUB : Hid (us = pkB x1 x2 x3 (cnt zs) (rP zs) (rZ zs)) := hus
    have HQ : Hid (recQ x1 x2 x3 (cnt zs) (rP zs) (rZ zs) = q) := hq.symm
    have HM : Hid (us.length = m) := hmv.symm
    clear y4 hus hmv hq
    go_upto_region 5 with (fail)
    generalize hY4 : World.alloc w4 _ = Y4
    have gA : Below w4.heap.size w4 Y4 := by rw [← hY4]; go_grown
    have p0 : Y4.cell? ⟨w4.heap.size, 0, none⟩ = some (.int .i64 q) := by rw [← hY4]; simp [go_sem]
    have p1 : Y4.cell? ⟨w4.heap.size, 1, none⟩ = some (.slice a4 m d4) := by rw [← hY4]; simp [go_sem]
    have hA := hA.up gA
    have hD := hD.below gA
    have hR := hR.up gA
    have r4 := r4.below gA (Nat.le_refl _)
    clear hY4 gA
    generalize w4.heap.size = pb at p0 p1 ⊢
    have hq : q = recQ x1 x2 x3 (cnt zs) (rP zs) (rZ zs) := HQ.out.symm
    by_cases hq0 : q = 0
    · have hpk : us = packB x1 x2 x3 (cnt zs) (rP zs) (rZ zs) := by rw [HUB.out]; unfold pkB; rw [← hq, if_pos hq0]
      have hne := rz_ne (zs := zs) (hq.symm.trans hq0)
      have hbd : ∀ z ∈ us, 0 ≤ z ∧ z ≤ 255 := by
        have hok := rec_runs (hq.symm.trans hq0) HZb.out
        rw [hpk]
        exact packB_bd hok.few hok.tot hok.both
      have hml : 0 < m := by rw [← HM.out, hpk, packB_len]; omega
      have HPk : Hid (rdB zs = us) := by show _ = _; rw [HBe.out, hpk]
      have HQz : Hid (rdQ zs = 0) := by show _ = _; rw [HQe.out, ← hq, hq0]
      have HNe : Hid (∀ i, i < cnt zs → rZ zs i ≠ []) := hne
      have HBd : Hid (∀ z ∈ us, 0 ≤ z ∧ z ≤ 255) := hbd
      have hRd : Reads Y4 (some ⟨b, off, none⟩) zs := .inr ⟨b, off, rfl, fun i hi => by have := HF.out Y4 hA.g i (by omega); rw [Nat.zero_add] at this; exact this⟩
      subst hq0
      clear hq hpk hne hbd
      go_wp2_with fail
      refine (hasPrefix_any (some ⟨b, off, none⟩) a4 n m cap d4 zs us _ HNn.out hcap HM.out hRd r4 HZ.out HBd.out hml).mono ?_
      rintro e w' ⟨rfl, hw'⟩
      subst w'
      by_cases hpre : us = zs.take m
      · have hok : OkI zs := ⟨by rw [HNn.out]; exact h5, HQz.out, by rw [HPk.out, HM.out]; exact hpre⟩
        have HY : Hid (qR zs = 0 ∧ uR zs = len0 zs ∧ kR zs 1 = zs.getD 1 0 ∧ kR zs 2 = zs.getD 2 0 ∧ kR zs 3 = zs.getD 3 0 ∧ nR zs = cnt zs) := rr_yes hok
        have HL0 : Hid (len0 zs = m) := by show _ = _; rw [← (ok_len hok).1, HPk.out, HM.out]
        rw [decide_eq_true hpre]
        obtain ⟨c0, c1, c2, c3⟩ := hR
        obtain ⟨a0, a1, a2, a3, a4', a5, f0, f1, f2, f3, f4, f5, g, hs⟩ := hA
        clear hpre hok hRd r4
        go_wp2_with fail
        refine bodyPost_ret (v := .agg #[.int .i64 0, .int .i64 m, .int .i64 x1, .int .i64 x2, .int .i64 x3, .slice a7 (cnt zs) c7]) (by simp [results, Tryd.results7, go_sem, *]) rfl ?_
        obtain ⟨e1, e2, e3, e4, e5, e6⟩ := HY.out
        obtain ⟨A9, C9, F9, hO⟩ := (hD.six (b := w.heap.size) (by omega) (.int .i64 0) (.int .i64 m) (.int .i64 x1) (.int .i64 x2) (.int .i64 x3) (.slice a7 (cnt zs) c7)).ownAt HNe.out
        refine ⟨a7, c7, A9, C9, F9, by rw [e1, e2, e3, e4, e5, e6, HL0.out, HX.out.1, HX.out.2.1, HX.out.2.2], by go_grown, ?_⟩
        rw [e6]
        exact hO.mono (by omega) (Nat.le_refl _)
      · have hno : ¬ OkI zs := fun h => hpre (by have h3 := h.2.2; rw [HPk.out, HM.out] at h3; exact h3)
        have HN : Hid (qR zs = 5 ∧ uR zs = 0 ∧ kR zs 1 = 0 ∧ kR zs 2 = 0 ∧ kR zs 3 = 0 ∧ nR zs = 0) := rr_no hno
        rw [decide_eq_false hpre]
        clear hpre hno hRd r4
        obtain ⟨a0, a1, a2, a3, a4, a5, f0, f1, f2, f3, f4, f5, g, hs⟩ := hA
        go_wp2_with fail
        refine bodyPost_ret (v := .agg #[.int .i64 5, .int .i64 0, .int .i64 0, .int .i64 0, .int .i64 0, .slice none 0 0]) (by simp [results, Tryd.results7, go_sem, *]) rfl ?_
        obtain ⟨e1, e2, e3, e4, e5, e6⟩ := HN.out
        exact ⟨none, 0, fun _ => none, fun _ => 0, fun _ => 0, by rw [e1, e2, e3, e4, e5, e6]; rfl, by go_grown, by rw [e6]; exact .inl rfl⟩
    · have hno : ¬ OkI zs := fun h => hq0 (by rw [hq, ← HQe.out]; exact h.2.1)
      have HN : Hid (qR zs = 5 ∧ uR zs = 0 ∧ kR zs 1 = 0 ∧ kR zs 2 = 0 ∧ kR zs 3 = 0 ∧ nR zs = 0) := rr_no hno
      have dq : (q != 0) = true := by simpa using hq0
      clear hq hq0 hno r4
      obtain ⟨a0, a1, a2, a3, a4, a5, f0, f1, f2, f3, f4, f5, g, hs⟩ := hA
      go_wp2_with fail
      refine bodyPost_ret (v := .agg #[.int .i64 5, .int .i64 0, .int .i64 0, .int .i64 0, .int .i64 0, .slice none 0 0]) (by simp [results, Tryd.results7, go_sem, *]) rfl ?_
      obtain ⟨e1, e2, e3, e4, e5, e6⟩ := HN.out
      exact ⟨none, 0, fun _ => none, fun _ => 0, fun _ => 0, by rw [e1, e2, e3, e4, e5, e6]; rfl, by go_grown, by rw [e6]; exact .inl rfl⟩

end Go.Proofs.YtcjkjenebnodbaaDoor
