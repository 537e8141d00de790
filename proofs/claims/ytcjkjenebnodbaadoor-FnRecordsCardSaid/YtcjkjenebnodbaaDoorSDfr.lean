/-
  Plain facts: spans are few, and their bytes.
-/
import Derived.Test.YtcjkjenebnodbaaDoorSDlm
import Derived.Test.YtcjkjenebnodbaaDoorRows
import Derived.WalkKit
import Derived.WalkSpells
import Derived.WalkLawsBesides
import Derived.Handy
import Derived.BigQuiet

namespace Go.Proofs.YtcjkjenebnodbaaDoor.Df
open Go.RowKit
set_option linter.unusedVariables false

/-- Spans rise from k on, none touches the next, none goes past 64. -/
def Inc : Nat → List (Nat × Nat) → Prop
  | _, [] => True
  | k, s :: L => k ≤ s.1 ∧ 1 ≤ s.2 ∧ s.1 + s.2 ≤ 64 ∧ Inc (s.1 + s.2 + 1) L
theorem Inc.mono {k j : Nat} (hkj : j ≤ k) : ∀ {L}, Inc k L → Inc j L
  | [], _ => trivial
  | s :: L, h => ⟨Nat.le_trans hkj h.1, h.2⟩

theorem dn_inc (za zb : List Int) (k : Nat) : Inc k (dn za zb 64 k) := by
  by_cases h : k < 64
  · have hle := rn_le za zb 64 k (Nat.le_of_lt h)
    by_cases h1 : 1 ≤ rn za zb 64 k
    · rw [dn_span h h1]
      exact ⟨Nat.le_refl _, h1, hle, dn_inc za zb _⟩
    · rw [dn_none h (by omega)]
      exact (dn_inc za zb (k + 1)).mono (by omega)
  · rw [dn_end h]
    trivial
termination_by 64 - k
decreasing_by all_goals omega

theorem rn_all (za zb : List Int) (N k j : Nat) (h0 : k ≤ j) (h1 : j < k + rn za zb N k) : byt za j ≠ byt zb j := by
  by_cases h : k < N ∧ byt za k ≠ byt zb k
  · by_cases e : j = k
    · rw [e]; exact h.2
    · rw [rn_diff h.1 h.2] at h1
      exact rn_all za zb N (k + 1) j (by omega) (by omega)
  · have : rn za zb N k = 0 := by rw [rn, dif_neg h]
    omega
termination_by N - k
decreasing_by omega

theorem rP_at (L : List (Nat × Nat)) (i : Nat) (h : i < L.length) : rP L i = (L[i].1 : Nat) := by simp [rP, List.getD, List.getElem?_eq_getElem h]
theorem rZ_at (zs : List Int) (L : List (Nat × Nat)) (i : Nat) (h : i < L.length) : rZ zs L i = (zs.drop L[i].1).take L[i].2 := by simp [rZ, List.getD, List.getElem?_eq_getElem h]
/-- How many places ahead of j differ. -/
def dc (za zb : List Int) : Nat → Nat
  | 0 => 0
  | j + 1 => dc za zb j + (if byt za j ≠ byt zb j then 1 else 0)
theorem dc_run (za zb : List Int) (k : Nat) : ∀ m, (∀ j, k ≤ j → j < k + m → byt za j ≠ byt zb j) → dc za zb (k + m) = dc za zb k + m
  | 0, _ => rfl
  | m + 1, h => by
    have ih := dc_run za zb k m (fun j h0 h1 => h j h0 (by omega))
    show dc za zb (k + m) + (if byt za (k + m) ≠ byt zb (k + m) then 1 else 0) = dc za zb k + (m + 1)
    rw [if_pos (h (k + m) (by omega) (by omega)), ih]
    omega
def lens (L : List (Nat × Nat)) : Nat := L.foldr (fun s n => s.2 + n) 0
theorem lens_dn (za zb : List Int) (N k : Nat) (hk : k ≤ N) : dc za zb k + lens (dn za zb N k) = dc za zb N := by
  by_cases h : k < N
  · have hle := rn_le za zb N k (Nat.le_of_lt h)
    have hst := rn_stop za zb N k (Nat.le_of_lt h)
    have hrun := dc_run za zb k (rn za zb N k) (fun j h0 h1 => rn_all za zb N k j h0 h1)
    by_cases h1 : 1 ≤ rn za zb N k
    · rw [dn_span h h1]
      show dc za zb k + (rn za zb N k + lens (dn za zb N (k + rn za zb N k + 1))) = _
      by_cases he : k + rn za zb N k = N
      · rw [dn_end (by omega)]
        show dc za zb k + (rn za zb N k + 0) = _
        have e2 : dc za zb N = dc za zb (k + rn za zb N k) := by rw [he]
        omega
      · have h4 : byt za (k + rn za zb N k) = byt zb (k + rn za zb N k) := hst.resolve_left he
        have ih := lens_dn za zb N (k + rn za zb N k + 1) (by omega)
        have e : dc za zb (k + rn za zb N k + 1) = dc za zb (k + rn za zb N k) := by
          show dc za zb (k + rn za zb N k) + _ = _
          rw [if_neg (fun hh => hh h4)]
          omega
        omega
    · have h0 : rn za zb N k = 0 := by omega
      rw [dn_none h h0]
      have h4 : byt za k = byt zb k := by
        rcases hst with h4 | h4
        · omega
        · rw [h0] at h4; exact h4
      have ih := lens_dn za zb N (k + 1) (by omega)
      have e : dc za zb (k + 1) = dc za zb k := by
        show dc za zb k + _ = _
        rw [if_neg (fun hh => hh h4)]
        omega
      omega
  · rw [dn_end h]
    have : k = N := by omega
    rw [this]; rfl
termination_by N - k
decreasing_by all_goals omega

theorem inc_few : ∀ {L : List (Nat × Nat)} {k : Nat}, Inc k L → L = [] ∨ k + 2 * L.length ≤ 66
  | [], _, _ => .inl rfl
  | s :: L, k, h => by
    obtain ⟨h0, h1, h2, h3⟩ := h
    rcases inc_few h3 with e | e
    · rw [e]; simp only [List.length_cons, List.length_nil]; omega
    · simp only [List.length_cons]; omega
theorem inc_at : ∀ {L : List (Nat × Nat)} {k : Nat}, Inc k L → ∀ i (h : i < L.length), 1 ≤ L[i].2 ∧ L[i].1 + L[i].2 ≤ 64 ∧ ∀ (h' : i + 1 < L.length), L[i].1 + L[i].2 + 1 ≤ L[i + 1].1
  | [], _, _, i, h => by simp at h
  | s :: L, k, hI, i, h => by
    obtain ⟨h0, h1, h2, h3⟩ := hI
    match i, h with
    | 0, _ =>
      refine ⟨h1, h2, fun h' => ?_⟩
      match L, h3, h' with
      | t :: L, h3, _ => exact h3.1
    | i + 1, h =>
      have := inc_at h3 i (by simpa using h)
      exact ⟨this.1, this.2.1, fun h' => this.2.2 (by simpa using h')⟩

theorem rZ_len {zs : List Int} (hz : zs.length = 64) {L : List (Nat × Nat)} {k : Nat} (hI : Inc k L) (i : Nat) (h : i < L.length) : (rZ zs L i).length = L[i].2 := by
  have := inc_at hI i h
  rw [rZ_at zs L i h]
  simp
  omega

theorem took_lens {zs : List Int} (hz : zs.length = 64) {L : List (Nat × Nat)} (hI : Inc 0 L) : ∀ k, k ≤ L.length → took (rZ zs L) k = lens (L.take k)
  | 0, _ => rfl
  | k + 1, hk => by
    have ih := took_lens hz hI k (by omega)
    simp only [took]
    rw [ih, rZ_len hz hI k (by omega), List.take_add_one, List.getElem?_eq_getElem (show k < L.length by omega)]
    have ha : ∀ (A B : List (Nat × Nat)), lens (A ++ B) = lens A + lens B := by
      intro A B
      induction A with
      | nil => simp [lens]
      | cons s A ih => simp only [lens, List.cons_append, List.foldr_cons] at ih ⊢; omega
    rw [ha]
    simp [lens]
/-- The runs hold as many bytes as there are places that differ. -/
theorem took_dn {za zb : List Int} (hb : zb.length = 64) : took (rZ zb (dn za zb 64 0)) (dn za zb 64 0).length = dc za zb 64 := by
  rw [took_lens hb (dn_inc za zb 0) _ (Nat.le_refl _), List.take_length]
  have := lens_dn za zb 64 0 (by omega)
  have h0 : dc za zb 0 = 0 := rfl
  rw [h0] at this
  omega


end Go.Proofs.YtcjkjenebnodbaaDoor.Df

/-
  Bytes in memory: what a slice of bytes holds, and the contracts of what compares, marks and looks through such slices (eqByteS, markByteS, heldByteS and what hands a BytesResult to them).
-/
namespace Go.Proofs.YtcjkjenebnodbaaDoor.Dr
open Go.RowKit

theorem below_draws {B : Nat} {a w : World} (h : Below B a w) (n : Nat) : Below B a (w.drewN n) := ⟨h.os, h.tape, h.output, h.size, h.block⟩

/-- The slice that begins at a holds the bytes zs, in a block from lo to below hi, which may be written. -/
def BytesIn (lo hi : Nat) (w : World) (a : Option Addr) (zs : List Int) : Prop :=
  zs = [] ∨ ∃ b off, a = some ⟨b, off, none⟩ ∧ lo ≤ b ∧ b < hi ∧ (∀ i, i < zs.length → w.cell? ⟨b, off + i, none⟩ = some (.int .u8 (zs.getD i 0))) ∧ (∀ i, i < zs.length → w.frozen? ⟨b, off + i, none⟩ = false)

/-- w' is w with new blocks, and with cells of blocks from lo to below hi written. -/
structure Turned (lo hi : Nat) (w w' : World) : Prop where
  os : w'.os = w.os
  tape : w'.tape = w.tape
  output : w'.output = w.output
  size : w.heap.size ≤ w'.heap.size
  block : ∀ k, k < w.heap.size → ¬ (lo ≤ k ∧ k < hi) → w'.heap[k]? = w.heap[k]?

theorem Turned.refl (lo hi : Nat) (w : World) : Turned lo hi w w := ⟨rfl, rfl, rfl, Nat.le_refl _, fun _ _ _ => rfl⟩
theorem Turned.ofBelow {lo hi : Nat} {w w' : World} (h : Below w.heap.size w w') : Turned lo hi w w' := ⟨h.os, h.tape, h.output, h.size, fun k hk _ => h.block k hk⟩
theorem Turned.trans {lo hi : Nat} {w w1 w2 : World} (h : Turned lo hi w w1) (k : Turned lo hi w1 w2) : Turned lo hi w w2 :=
  ⟨k.os.trans h.os, k.tape.trans h.tape, k.output.trans h.output, Nat.le_trans h.size k.size, fun i hi hn => (k.block i (Nat.lt_of_lt_of_le hi h.size) hn).trans (h.block i hi hn)⟩
theorem Turned.toBelow {lo hi B : Nat} {w w' : World} (h : Turned lo hi w w') (hB : B ≤ w.heap.size) (hl : B ≤ lo) : Below B w w' := ⟨h.os, h.tape, h.output, h.size, fun k hk => h.block k (by omega) (by omega)⟩
theorem Turned.setCell {lo hi : Nat} {w w' : World} (h : Turned lo hi w w') {p : Addr} (h1 : lo ≤ p.block) (h2 : p.block < hi) (v : Value) : Turned lo hi w (w'.setCell p v) :=
  h.trans ⟨rfl, rfl, rfl, by simp [World.setCell], fun k _ hn => Below.heap_setCell _ _ _ _ (by omega)⟩
theorem Turned.cell {lo hi : Nat} {w w' : World} (h : Turned lo hi w w') {p : Addr} {v : Value} (hc : w.cell? p = some v) (hn : p.block < lo ∨ hi ≤ p.block) : w'.cell? p = some v :=
  (World.cell?_of_block (h.block p.block (World.block_lt_of_cell? w p hc) (by omega))).trans hc
theorem Turned.frozen {lo hi : Nat} {w w' : World} (h : Turned lo hi w w') {p : Addr} {v : Value} (hc : w.cell? p = some v) (hn : p.block < lo ∨ hi ≤ p.block) : w'.frozen? p = w.frozen? p :=
  World.frozen?_of_block (h.block p.block (World.block_lt_of_cell? w p hc) (by omega))

theorem BytesIn.turned {l u lo hi : Nat} {w w' : World} {a : Option Addr} {zs : List Int} (h : BytesIn l u w a zs) (ht : Turned lo hi w w') (hn : u ≤ lo ∨ hi ≤ l) : BytesIn l u w' a zs := by
  rcases h with h | ⟨b, off, ha, h1, h2, hc, hf⟩
  · exact .inl h
  · exact .inr ⟨b, off, ha, h1, h2, fun i hi => ht.cell (hc i hi) (by simp only; omega), fun i hi => (ht.frozen (hc i hi) (by simp only; omega)).trans (hf i hi)⟩

theorem BytesIn.below {l u : Nat} {w w' : World} {a : Option Addr} {zs : List Int} (h : BytesIn l u w a zs) (hb : Below w.heap.size w w') : BytesIn l u w' a zs :=
  h.turned (lo := u) (hi := u) (Turned.ofBelow hb) (.inl (Nat.le_refl _))

theorem BytesIn.mono {lo lo' hi hi' : Nat} {w : World} {a : Option Addr} {zs : List Int} (h : BytesIn lo hi w a zs) (hl : lo' ≤ lo) (hh : hi ≤ hi') : BytesIn lo' hi' w a zs := by
  rcases h with h | ⟨b, off, ha, h1, h2, hc, hf⟩
  · exact .inl h
  · exact .inr ⟨b, off, ha, by omega, by omega, hc, hf⟩

/-- A store into a block below. -/
theorem BytesIn.setCell {lo hi : Nat} {w : World} {a : Option Addr} {zs : List Int} (h : BytesIn lo hi w a zs) {p : Addr} (hp : p.block < lo) (v : Value) : BytesIn lo hi (w.setCell p v) a zs := by
  rcases h with h | ⟨b, off, ha, h1, h2, hc, hf⟩
  · exact .inl h
  · refine .inr ⟨b, off, ha, h1, h2, fun i hi => ?_, fun i hi => ?_⟩
    · rw [World.cell?_setCell_other _ _ _ _ (fun e => by have := congrArg Addr.block e; simp at this; omega)]; exact hc i hi
    · rw [World.frozen?_setCell]; exact hf i hi

/-- Block b holds the two cells of a BytesResult. -/
structure ResAt (w : World) (b : Nat) (q : Int) (a : Option Addr) (n c : Nat) : Prop where
  c0 : w.cell? ⟨b, 0, none⟩ = some (.int .i64 q)
  c1 : w.cell? ⟨b, 1, none⟩ = some (.slice a n c)

theorem ResAt.turned {lo hi b : Nat} {w w' : World} {q : Int} {a : Option Addr} {n c : Nat} (h : ResAt w b q a n c) (ht : Turned lo hi w w') (hn : b < lo ∨ hi ≤ b) : ResAt w' b q a n c :=
  ⟨ht.cell h.c0 (by simp only; omega), ht.cell h.c1 (by simp only; omega)⟩
theorem ResAt.below {b : Nat} {w w' : World} {q : Int} {a : Option Addr} {n c : Nat} (h : ResAt w b q a n c) (hb : Below w.heap.size w w') : ResAt w' b q a n c :=
  h.turned (lo := 0) (hi := 0) (Turned.ofBelow hb) (.inr (Nat.zero_le _))

set_option maxHeartbeats 400000 in
theorem eqByteS_same (a b : Option Addr) (la lb ua ub : Nat) (zs : List Int) (n c d : Nat) (w : World) (hn : zs.length = n) (hm : n ≤ 140737488351232) (ha : BytesIn la ua w a zs) (hb : BytesIn lb ub w b zs) :
    Calls Tryd.prog 74 #[.slice a n c, .slice b n d] w fun e w' => e = .returned (.bool true) ∧ ∃ q, w' = w.drewN q := by
  by_cases h0 : n = 0
  · subst h0
    go_enter Tryd.func74, Tryd.ntmps74
    go_wp2
    go_rounds 1
    go_ret
    exact ⟨rfl, 0, rfl⟩
  · have hne : zs ≠ [] := by intro e; rw [e] at hn; simp at hn; omega
    rcases ha with ha | ⟨x, o, rfl, _, _, hc, _⟩
    · exact absurd ha hne
    rcases hb with hb | ⟨y, p, rfl, _, _, hd, _⟩
    · exact absurd hb hne
    clear hne
    go_enter Tryd.func74, Tryd.ntmps74
    go_wp2
    go_loopw [5] (fun i wr => ∃ k q : Nat, k ≤ n ∧ i = .int .i64 k ∧ wr = w.drewN q) (fun i _ => n - (intOf i).toNat)
    case atStart => exact ⟨0, 0, Nat.zero_le _, rfl, rfl⟩
    case round =>
      obtain ⟨k, q, hk, rfl, rfl⟩ := hrel
      by_cases hlt : k < n
      · have h1 := hc k (by omega)
        have h2 := hd k (by omega)
        clear hc hd
        have hi : (k : Int) < (n : Int) := by omega
        go_wp2
        go_quiet (fail)
        go_wp2
        go_roundw
        case rel => exact ⟨k + 1, q + nq, by omega, by go_num, rfl⟩
        case measure => simp [intOf]; omega
      · go_wp2
        go_ret
        exact ⟨rfl, q, rfl⟩

/-- The i-th mark, beginning with k. -/
def markOf (k : Int) (i : Nat) : Int := (k + i) % 256
/-- zs, its first j bytes marked. -/
def marked (k : Int) (j : Nat) (zs : List Int) : List Int := (List.range j).map (markOf k) ++ zs.drop j

theorem marked_zero (k : Int) (zs : List Int) : marked k 0 zs = zs := by simp [marked]
theorem marked_length (k : Int) (j : Nat) (zs : List Int) (h : j ≤ zs.length) : (marked k j zs).length = zs.length := by simp [marked]; omega
theorem marked_lt (k : Int) (j : Nat) (zs : List Int) (i : Nat) (h : i < j) : (marked k j zs).getD i 0 = markOf k i := by
  simp [marked, List.getD, List.getElem?_append, h]
theorem marked_ge (k : Int) (j : Nat) (zs : List Int) (i : Nat) (h : j ≤ i) : (marked k j zs).getD i 0 = zs.getD i 0 := by
  have h1 : ¬ i < j := by omega
  have h2 : j + (i - j) = i := by omega
  simp [marked, List.getD, List.getElem?_append, h1, h2]

theorem BytesIn.mark {w : World} {b off : Nat} {k : Int} {j : Nat} {zs : List Int} (hj : j < zs.length)
    (hc : ∀ i, i < zs.length → w.cell? ⟨b, off + i, none⟩ = some (.int .u8 ((marked k j zs).getD i 0))) :
    ∀ i, i < zs.length → (w.setCell ⟨b, off + j, none⟩ (.int .u8 (markOf k j))).cell? ⟨b, off + i, none⟩ = some (.int .u8 ((marked k (j + 1) zs).getD i 0)) := by
  intro i hi
  by_cases e : i = j
  · subst e
    rw [World.cell?_setCell_same _ _ _ (hc i hi), marked_lt k (i + 1) zs i (by omega)]
  · rw [World.cell?_setCell_other _ _ _ _ (fun h => e (by have := congrArg Addr.off h; simp at this; omega)), hc i hi]
    by_cases h1 : i < j
    · rw [marked_lt k j zs i h1, marked_lt k (j + 1) zs i (by omega)]
    · rw [marked_ge k j zs i (by omega), marked_ge k (j + 1) zs i (by omega)]

end Go.Proofs.YtcjkjenebnodbaaDoor.Dr
