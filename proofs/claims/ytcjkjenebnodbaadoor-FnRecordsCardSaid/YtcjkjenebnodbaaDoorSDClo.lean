/-
  The contracts of bytes.Clone and of the model's l2Cell: the bytes of a cell, in new memory.
-/
import Derived.Test.YtcjkjenebnodbaaDoorSDModF
import Derived.Laws.CopyOwn

namespace Go.Proofs.YtcjkjenebnodbaaDoor.Dr
open Go.RowKit
set_option linter.unusedVariables false

theorem reads_at {w : World} {b off : Nat} {zs : List Int} (h : Reads w (some ⟨b, off, none⟩) zs) (i : Nat) (hi : i < zs.length) : w.cell? ⟨b, off + i, none⟩ = some (.int .u8 (zs.getD i 0)) := by
  rcases h with h | ⟨b', off', ha, hc⟩
  · rw [h] at hi; simp at hi
  · simp only [Option.some.injEq, Addr.mk.injEq, and_true] at ha
    obtain ⟨rfl, rfl⟩ := ha
    exact hc i hi

/-- What wpList_append_own asks of the bytes that are appended. -/
theorem reads_src {w : World} {b off : Nat} {zs : List Int} (h : Reads w (some ⟨b, off, none⟩) zs) : ∀ j u, (zs.map (Value.int .u8))[j]? = some u → w.cell? ((⟨b, off, none⟩ : Addr).add j) = some u := by
  intro j u hu
  rw [List.getElem?_map] at hu
  cases hz : zs[j]? with
  | none => rw [hz] at hu; cases hu
  | some z =>
    rw [hz] at hu
    simp only [Option.map_some, Option.some.injEq] at hu
    subst hu
    rw [Addr.add_mid, reads_at h j (List.getElem?_eq_some_iff.1 hz).1, List.getD, hz]
    rfl

/-- The bytes of the cell of slot s. -/
def cellOf (zs : List Int) (s : Nat) : List Int := (zs.drop (nb zs (2 + 2 * s))).take (nb zs (3 + 2 * s))
theorem cellOf_length {zs : List Int} (h : Fine zs) (s : Nat) (hs : s < nb zs 0) : (cellOf zs s).length = nb zs (3 + 2 * s) := by
  have := h.end64 s hs
  have := h.pg.len
  simp [cellOf]
  omega
theorem Reads.cell {w : World} {b off : Nat} {zs : List Int} (hr : Reads w (some ⟨b, off, none⟩) zs) (p l : Nat) (hl : p + l ≤ zs.length) : Reads w (some ⟨b, off + p, none⟩) ((zs.drop p).take l) := by
  by_cases h0 : l = 0
  · exact .inl (by simp [h0])
  · refine .inr ⟨b, off + p, rfl, fun i hi => ?_⟩
    have hil : i < l := by simp at hi; omega
    rw [Nat.add_assoc, reads_at hr (p + i) (by omega)]
    simp [List.getD, hil]

set_option maxHeartbeats 1000000 in
theorem l2Cell_any (a : Option Addr) (zs : List Int) (c s : Nat) (w : World) (hr : Reads w a zs) (h : Fine zs) (hc : 64 ≤ c) (hs : s < nb zs 0) (hh : empB zs s = false) :
    Calls Tryd.prog 93 #[.slice a 64 c, .int .i64 s] w fun e w' => ∃ a' d, e = .returned (.slice a' (nb zs (3 + 2 * s)) d) ∧ Below w.heap.size w w' ∧ BytesIn w.heap.size w'.heap.size w' a' (cellOf zs s) := by
  obtain ⟨i0, hi, hz0, hz1, hz2⟩ := info5
  have hfew := h.few
  have hlen := cellOf_length h s hs
  have hpl := h.place s hs
  obtain ⟨b, off, rfl, hcells⟩ := hr.page h.pg
  have hb0 : b < w.heap.size := World.block_lt_of_cell? w _ (hcells 0 (by omega))
  clear hcells
  obtain ⟨p, hp⟩ : ∃ p, p = nb zs (2 + 2 * s) := ⟨_, rfl⟩
  obtain ⟨l, hl⟩ : ∃ l, l = nb zs (3 + 2 * s) := ⟨_, rfl⟩
  rw [← hp, ← hl] at hpl
  rw [← hl] at hlen ⊢
  have hsrc : Reads w (some ⟨b, off + p, none⟩) (cellOf zs s) := by unfold cellOf; rw [← hp, ← hl]; exact hr.cell p l (by rw [h.pg.len]; omega)
  have HP : Hid (nb zs (2 + 2 * s) = p) := hp.symm
  have HL : Hid (nb zs (3 + 2 * s) = l) := hl.symm
  have hne : ¬ (p = 0 ∧ l = 0) := fun e => by simp [empB, ← hp, ← hl, e.1, e.2] at hh
  have hpl2 : p ≠ 0 ∧ l ≠ 0 ∧ p + l ≤ 64 := by omega
  obtain ⟨hp0, hl0, hpl64⟩ := hpl2
  clear hp hl hpl hne hh
  generalize cellOf zs s = ys at hlen hsrc
  have hO : (w.alloc (.cells #[] 5)).ownsRow w.heap.size 5 1 (.slice (some ⟨w.heap.size, 0, none⟩) 0 0) 0 [] := by simpa using World.ownsRow_lit (base := w.heap.size) (e := 5) (size := 1) w #[] 0 (Nat.le_refl _) (by unfold maxLen; omega) rfl
  have hll : (ys.map (Value.int .u8)).length = l * 1 := by simpa using hlen
  go_enter Tryd.func93, Tryd.ntmps93
  go_wp2_with fail
  refine (l2Place_any _ zs c s _ hr h.pg (by omega)).mono ?_
  rintro e w' ⟨rfl, hw'⟩
  subst w'
  rw [HP.out]
  go_wp2_with fail
  refine (l2Size_any _ zs c s _ (hr.below (B := w.heap.size) (by go_grown) (Nat.le_refl _)) h.pg (by omega)).mono ?_
  rintro e w' ⟨rfl, hw'⟩
  subst w'
  rw [HL.out]
  have i1 : (p : Int) + (l : Int) ≤ 64 := by omega
  have i2 : (p : Int) + (l : Int) ≤ (c : Int) := by omega
  have i3 : ¬ (c = p) := by omega
  have HPP : Hid (p + l - p = l) := Nat.add_sub_cancel_left ..
  have hll2 : (ys.map (Value.int .u8)).length = (p + l - p) * 1 := by rw [HPP.out]; exact hll
  go_wp2_with (at_builtin; go_must (refine wpList_append_own _ rfl _ _ 22 rfl w.heap.size 5 i0 (.int .u8 0) 1 1 Tryd.underlying22 hi hz0 hz1 hz2 rfl (by decide) _ _ _ rfl hO ⟨b, off + p, none⟩ (p + l - p) (c - p) (ys.map (Value.int .u8)) rfl hll2 ?c1 ?c2 ?c3 ?c4 ?c5 ?_))
  case c1 =>
    intro j u hu
    exact reads_src (hsrc.below (B := w.heap.size) (by go_grown) (Nat.le_refl _)) j u hu
  case c2 =>
    intro u hu
    rw [List.mem_map] at hu
    obtain ⟨z, _, rfl⟩ := hu
    rfl
  case c3 => unfold maxLen; omega
  case c4 => omega
  case c5 => simp
  intro v' w1 hown' hgrow _
  have hB' : Below w.heap.size w w1 := Below.grown ((Below.refl _ _).alloc (Nat.le_refl _) _) hgrow (by simp) (fun j hj => by simp [Value.ownBlock] at hj; omega)
  clear hgrow
  go_wp2_with fail
  go_ret
  have hown : w1.ownsRow w.heap.size 5 1 v' l (ys.map (Value.int .u8)) := hown'
  obtain ⟨g, cap, rfl⟩ := Joins.ownsRow_form hown (by omega)
  exact ⟨_, _, rfl, hB', bytesIn_owns hown⟩

end Go.Proofs.YtcjkjenebnodbaaDoor.Dr

/-
  The contracts of setSpan, writeCell and writeAheadOfLow: a page is written through a pointer.
-/
namespace Go.Proofs.YtcjkjenebnodbaaDoor.Dr
open Go.RowKit
set_option linter.unusedVariables false

/-- The slot s tells a place and a length. -/
def spanSet (zs : List Int) (s p l : Nat) : List Int := (zs.set (2 + 2 * s) (p : Int)).set (3 + 2 * s) (l : Int)

end Go.Proofs.YtcjkjenebnodbaaDoor.Dr

/-
  The contract of writeCell: a cell is copied into a page, and its slot tells it.
-/
namespace Go.Proofs.YtcjkjenebnodbaaDoor.Dr
open Go.RowKit
set_option linter.unusedVariables false

/-- Bytes are copied into a page. -/
theorem wp_copyPg {o : Oper} {a : Act} {w : World} {K : Act → World → Prop} {Q : Exit → Act → World → Prop} (d s : Operand)
    (ho : o.op = .call { callee := .builtin .copy, args := #[d, s], argTypes := #[22, 22] })
    (b off n dCap : Nat) (ad : Addr) (sCap : Nat) (hd : a.eval d = .slice (some ⟨b, off, none⟩) n dCap) (hs : a.eval s = .slice (some ad) n sCap)
    (zs cs : List Int) (hA : Arr w b zs) (hn : cs.length = n) (hsrc : ∀ j v, (cs.map (Value.int .u8))[j]? = some v → w.cell? (ad.add j) = some v) (hfit : off + n ≤ 64)
    (h : K (a.put o.dst (goInt n)) (w.setRow b (pgC (splice zs off cs)))) : o.wp Tryd.prog a w K Q := by
  have hinf : (Tryd.prog.info? 5).map (·.size) = some 1 := by kernel_rfl
  have hrun := run_copy_row (P := Tryd.prog) w 22 22 o.type 5 b off n dCap ad n sCap (pgC zs) 58 (cs.map (Value.int .u8)) Tryd.underlying22 hinf hA.row (by simp [hn]) hsrc (by rw [pgC_size, hA.len, List.length_map, hn]; exact hfit) (fun v hv => by
    rw [List.mem_map] at hv
    obtain ⟨z, _, rfl⟩ := hv
    rfl)
  have e : ((pgC zs).toList.take off ++ cs.map (Value.int .u8) ++ (pgC zs).toList.drop (off + (cs.map (Value.int .u8)).length)).toArray = pgC (splice zs off cs) := by
    simp [pgC, splice]
  rw [e, List.length_map, hn] at hrun
  unfold Oper.wp
  simp [execOp, ho, resolve, invoke, builtin, hd, hs, hrun, Result.andThen]
  exact h

def WcS (w : World) (b y p n : Nat) (V : World) : Prop := V.cell? ⟨y, 0, none⟩ = some (.int .u64 p) ∧ V.cell? ⟨y, 1, none⟩ = some (.int .u64 n) ∧ (∃ ys, Arr V b ys) ∧ Turned b (b + 1) w V
theorem wcKeep {w : World} {b y p n : Nat} {W V : World} (h : WcS w b y p n W) (hb : Below W.heap.size W V) : WcS w b y p n V := by
  obtain ⟨h1, h2, ⟨ys, h3⟩, h4⟩ := h
  have hy : y < W.heap.size := World.block_lt_of_cell? W _ h1
  exact ⟨(hb.cell (p := ⟨y, 0, none⟩) hy).trans h1, (hb.cell (p := ⟨y, 1, none⟩) hy).trans h2, ⟨ys, h3.grown hb⟩, h4.trans (Turned.ofBelow hb)⟩

end Go.Proofs.YtcjkjenebnodbaaDoor.Dr

/-
  The contract of writeAheadOfLow.
-/
namespace Go.Proofs.YtcjkjenebnodbaaDoor.Dr
open Go.RowKit
set_option linter.unusedVariables false

theorem mem_splice {zs cs : List Int} {p : Nat} {z : Int} (h : z ∈ splice zs p cs) : z ∈ zs ∨ z ∈ cs := by
  unfold splice at h
  rw [List.mem_append, List.mem_append] at h
  rcases h with h | h | h
  · exact .inl (List.mem_of_mem_take h)
  · exact .inr h
  · exact .inl (List.mem_of_mem_drop h)
theorem isPg_splice {zs cs : List Int} {p : Nat} (h : IsPg zs) (hc : ∀ z ∈ cs, 0 ≤ z ∧ z ≤ 255) (hl : p + cs.length ≤ 64) : IsPg (splice zs p cs) :=
  ⟨by rw [length_splice _ _ _ (by rw [h.len]; exact hl)]; exact h.len, fun z hz => by rcases mem_splice hz with h1 | h1; exact h.bd z h1; exact hc z h1⟩
theorem isPg_set {zs : List Int} (h : IsPg zs) (i v : Nat) (hv : v ≤ 255) : IsPg (zs.set i (v : Int)) :=
  ⟨by rw [List.length_set]; exact h.len, fun z hz => by
    rcases List.mem_or_eq_of_mem_set hz with h1 | h1
    · exact h.bd z h1
    · rw [h1]; omega⟩
theorem isPg_span {zs : List Int} (h : IsPg zs) (s p l : Nat) (hp : p ≤ 255) (hl : l ≤ 255) : IsPg (spanSet zs s p l) := isPg_set (isPg_set h _ p hp) _ l hl
theorem nb_set_same {zs : List Int} (i v : Nat) (hi : i < zs.length) : nb (zs.set i (v : Int)) i = v := by simp [nb, byt, List.getD, hi]
theorem nb_set_other {zs : List Int} (i j : Nat) (v : Int) (hij : i ≠ j) : nb (zs.set i v) j = nb zs j := by simp [nb, byt, List.getD, hij]
theorem nb_span_place {zs : List Int} (h : IsPg zs) (s p l : Nat) (hs : s < 31) : nb (spanSet zs s p l) (2 + 2 * s) = p := by
  unfold spanSet
  rw [nb_set_other _ _ _ (by omega), nb_set_same _ _ (by rw [h.len]; omega)]
theorem nb_span_len {zs : List Int} (h : IsPg zs) (s p l : Nat) (hs : s < 30) : nb (spanSet zs s p l) (3 + 2 * s) = l := by
  unfold spanSet
  rw [nb_set_same _ _ (by rw [List.length_set, h.len]; omega)]

def WaS (w : World) (b : Nat) (V : World) : Prop := (∃ xs, Arr V b xs) ∧ Turned b (b + 1) w V
theorem waKeep {w : World} {b : Nat} {W V : World} (h : WaS w b W) (hb : Below W.heap.size W V) : WaS w b V := ⟨⟨_, h.1.choose_spec.grown hb⟩, h.2.trans (Turned.ofBelow hb)⟩

/-- A page behind writeAheadOfLow. -/
def aheadP (zs : List Int) (s : Nat) (cs : List Int) : List Int := (spanSet (splice zs (nb zs 1 - cs.length) cs) s (nb zs 1 - cs.length) cs.length).set 1 ((nb zs 1 - cs.length : Nat) : Int)

end Go.Proofs.YtcjkjenebnodbaaDoor.Dr

/-
  The contracts of the model's l2CellSize and l2Empty.
-/
namespace Go.Proofs.YtcjkjenebnodbaaDoor.Dr
open Go.RowKit
set_option linter.unusedVariables false
set_option maxHeartbeats 1000000 in
theorem l2Empty_any (a : Option Addr) (zs : List Int) (c : Nat) (w : World) (hr : Reads w a zs) (h : Fine zs) :
    Calls Tryd.prog 94 #[.slice a 64 c] w fun e w' => e = .returned (.int .i64 (firstE zs 0 (nb zs 0))) ∧ w' = w := by
  have hc := h.few
  obtain ⟨n, hn⟩ : ∃ n, n = nb zs 0 := ⟨_, rfl⟩
  have HN : Hid (nb zs 0 = n) := hn.symm
  rw [← hn] at hc ⊢
  clear hn
  go_enter Tryd.func94, Tryd.ntmps94
  go_wp2_with fail
  go_loop [3] (fun i => ∃ k : Nat, k ≤ n ∧ i = .int .i64 k ∧ Hid (firstE zs 0 n = firstE zs k (n - k))) (fun i => n - (intOf i).toNat)
  case atStart => exact ⟨0, by omega, rfl, rfl⟩
  case round =>
    obtain ⟨k, hk, rfl, HF⟩ := hrel
    go_wp2_with fail
    refine (l2Count_any a zs c _ hr h.pg).mono ?_
    rintro e w' ⟨rfl, rfl⟩
    rw [HN.out]
    by_cases hlt : k < n
    · have hi : (k : Int) < (n : Int) := by omega
      go_wp2_with fail
      refine (l2Size_any a zs c k _ hr h.pg (by omega)).mono ?_
      rintro e w' ⟨rfl, rfl⟩
      have hpl := h.place k (by rw [HN.out]; exact hlt)
      cases hE : empB zs k
      · have HS : Hid (firstE zs 0 n = firstE zs (k + 1) (n - (k + 1))) := by
          show _ = _
          rw [HF.out, show n - k = n - (k + 1) + 1 by omega, firstE, hE]
          rfl
        have hl : nb zs (3 + 2 * k) ≠ 0 := by
          rcases hpl with ⟨h1, h2⟩ | h1
          · simp [empB, h1, h2] at hE
          · exact h1.2.1
        obtain ⟨l, hll⟩ : ∃ l, l = nb zs (3 + 2 * k) := ⟨_, rfl⟩
        rw [← hll] at hl ⊢
        have dl : ((l : Int) == 0) = false := by simp; omega
        clear hE hll hl hpl
        go_wp2_with fail
        go_round
        case rel => exact ⟨k + 1, by omega, by go_num, HS⟩
        case measure => simp [intOf]; omega
      · have HS : Hid (firstE zs 0 n = k) := by
          show _ = _
          rw [HF.out, show n - k = n - (k + 1) + 1 by omega, firstE, hE]
          rfl
        have hl : nb zs (3 + 2 * k) = 0 := by simp [empB] at hE; exact hE.2
        rw [hl]
        clear hE hl hpl
        go_wp2_with fail
        go_ret
        exact ⟨by rw [HS.out]; rfl, rfl⟩
    · have e : k = n := by omega
      subst e
      go_wp2_with fail
      refine (l2Count_any a zs c _ hr h.pg).mono ?_
      rintro e w' ⟨rfl, rfl⟩
      rw [HN.out]
      go_wp2_with fail
      go_ret
      exact ⟨by rw [HF.out, Nat.sub_self]; rfl, rfl⟩

end Go.Proofs.YtcjkjenebnodbaaDoor.Dr
