/-
  maps.Keys over maps whose keys are pairs: each key comes once.
-/
import Derived.Test.YtmbllmhpnopbdaaFFLac
import Derived.Test.YtmbllmhpnopbdaaFFKvs
import Derived.Sort.MapsRangeIn
import Derived.RangeFuncStops

namespace Go.Proofs.Ytmbllmhpnopbdaa
open Go.RowKit Go.Maps Go.Shelf Go.Sort
set_option linter.unusedVariables false

/-- A pair that may be a key. -/
structure K3 where
  x : Int
  y : Int
  h : Kw x y
def k2E (x : K3) : Value := .agg #[.int .i64 x.x, .int .i64 x.y]
def k2L (x : K3) : Lit := kl x.x x.y
theorem k2_rd (x : K3) : keyOf Try.prog (65) (k2E x) = some (k2L x) := kOf73 _ _ x.h
theorem k2L_inj {x y : K3} (h : k2L x = k2L y) : x = y := by
  obtain ⟨h1, h2⟩ := kl_inj x.h y.h h
  obtain ⟨a, b, _⟩ := x
  obtain ⟨c, d, _⟩ := y
  simp only at h1 h2
  subst h1 h2
  rfl
theorem k2_key (x : K3) : WideAt.IsKeyLit (k2L x) := trivial

set_option maxRecDepth 100000 in
theorem lits2_inv {d : Nat} {cs : List Value} {l : List Lit} (h : Try.prog.keyLits d 2 cs = some l) : ∃ x, cs = [.int .i64 x] ∧ (Lit.int .i64 x).wf = true := by
  obtain ⟨x, rfl, rfl⟩ := Go.keyLits_int' Try.underlying2 h
  refine ⟨x, rfl, ?_⟩
  cases d with
  | zero => simp [Program.keyLits] at h
  | succ d =>
    unfold Program.keyLits at h
    rw [Try.underlying2] at h
    simpa using h

set_option maxRecDepth 100000 in
theorem k2_inv {key : Value} {l : Lit} (h : keyOf Try.prog (65) key = some l) : ∃ x : K3, key = k2E x := by
  have c1 : Try.prog.cellsOf 65 = 2 := by kernel_rfl
  have c2 : Try.prog.cellsOf 2 = 1 := by kernel_rfl
  unfold keyOf at h
  rw [Try.underlying65] at h
  simp only at h
  split at h
  · rename_i hk
    simp only [Bool.and_eq_true] at hk
    obtain ⟨_, hf⟩ := hk
    simp only [Option.map_eq_some_iff] at h
    obtain ⟨ls, hls, _⟩ := h
    generalize Try.prog.types.size + 1 = d at hls
    cases d with
    | zero => simp [Program.keyLits] at hls
    | succ d =>
    unfold Program.keyLits at hls
    rw [Try.underlying65] at hls
    cases key with
    | agg cs =>
      have hsz : cs.size = 2 := by
        unfold Value.formed at hf
        rw [Try.underlying65] at hf
        simpa [c1] using hf
      obtain ⟨a, b, rfl⟩ : ∃ a b, cs = #[a, b] := by
        obtain ⟨l⟩ := cs
        match l, hsz with
        | [a, b], _ => exact ⟨a, b, rfl⟩
      simp [Value.cells, c1, c2] at hls
      cases h0 : Try.prog.keyLits d 2 [a] with
      | none => rw [h0] at hls; simp at hls
      | some l0 =>
      cases h1 : Try.prog.keyLits d 2 [b] with
      | none => rw [h0, h1] at hls; simp at hls
      | some l1 =>
      obtain ⟨x, ex, wx⟩ := lits2_inv h0
      obtain ⟨y, ey, wy⟩ := lits2_inv h1
      simp at ex ey
      exact ⟨⟨x, y, wx, wy⟩, by rw [ex, ey]; rfl⟩
    | _ => simp [Value.formed, Try.underlying65] at hf
  · cases h

/-- Which keys have come. -/
def ColK (D0 : DataW Value) (left : Lit → Bool) (ss : List K3) : Prop := ss.Nodup ∧ ∀ x, x ∈ ss ↔ (Maps.has D0 (k2L x) = true ∧ left (k2L x) = false)
theorem ColK.start (D0 : DataW Value) : ColK D0 (Maps.has D0) [] := ⟨List.nodup_nil, fun x => by cases Maps.has D0 (k2L x) <;> simp⟩
theorem ColK.step {D0 : DataW Value} {left : Lit → Bool} {ss : List K3} (h : ColK D0 left ss) {x : K3} {y : DataW Value} (hlk : left (k2L x) = true) (hat : ∀ zd, D0.atKey (k2L x) zd = y) : ColK D0 (fun z => left z && !z.sameKey (k2L x)) (ss ++ [x]) := by
  have hhas : Maps.has D0 (k2L x) = true := Maps.has_true_of_atKey hat
  have hnew : x ∉ ss := fun hx => by have := ((h.2 x).1 hx).2; rw [hlk] at this; cases this
  refine ⟨List.nodup_append.2 ⟨h.1, by simp, fun a ha b hb => by simp at hb; subst hb; exact fun e => hnew (e ▸ ha)⟩, fun y => ?_⟩
  rw [List.mem_append, h.2 y]
  by_cases e : y = x
  · subst e
    simp [hhas, WideAt.sameKey_self (k2_key y)]
  · have : (k2L y).sameKey (k2L x) = false := Maps.sameKey_ne (fun e' => e (k2L_inj e'))
    simp [this, e]


set_option maxRecDepth 100000 in
set_option maxHeartbeats 1000000 in
theorem keys1SR_in (F : Fence) (n : Nat) (h10 : F.fn 60) (hro : F.round = none) (hn : 1 ≤ n) (l Bm b nn : Nat) (D0 : DataW Value) (J Jx : List K3 → World → Prop)
    (hY : ∀ pre x W, J pre W → pre.length < Maps.size D0 → YieldAt F (n - 1) Try.prog l #[k2E x] W fun e W' =>
      (e = .returned (.bool true) ∧ J (pre ++ [x]) W' ∧ KeepsWalks W W') ∨ (e = .returned (.bool false) ∧ Jx (pre ++ [x]) W'))
    (W : World) (hJ : AbidesFrom W.heap.size J) (hm : W.cell? ⟨Bm, 0, none⟩ = some (.map (some b))) (hown : W.ownsMap Try.prog (65) hR b nn D0) (h0 : J [] W) :
    CallsIn F n Try.prog 60 #[.func (.yield l) #[] #[], .pointer (some ⟨Bm, 0, none⟩)] W fun e W' => (∃ v, e = .returned v) ∧
      ((∃ ss : List K3, (ss.Nodup ∧ ∀ x, x ∈ ss ↔ Maps.has D0 (k2L x) = true) ∧ J ss W') ∨ (∃ pre : List K3, True ∧ Jx pre W')) := by
  refine callsIn_of_wp Try.func60 rfl h10 ?_ hro
  simp only [Try.ntmps60, List.size_toArray, List.length_cons, List.length_nil, Nat.reduceAdd, Nat.reduceSub, Array.replicate_succ, Array.replicate_zero, List.push_toArray, List.append_toArray, List.nil_append, List.cons_append]
  gi_wp2_with (first
    | (gi_at_range; refine wpListIn_range_own _ rfl _ 59 rfl 65 26 keyT73.law Try.underlying59 _ b nn _ rfl hown ?_; intro w0 hrg0 hg0 hs0)
    | gi_in)
  go_frame
  gi_loopw [3] (fun _ wr => ∃ (left : Lit → Bool) (cnt : Nat) (ss : List K3), wr.ranges Try.prog (65) hR b W.heap.size nn D0 left cnt ∧ ss.length + cnt ≤ Maps.size D0 ∧ ColK D0 left ss ∧ J ss wr ∧ W.heap.size < wr.heap.size)
    (fun _ wr => wr.rangeLeft b W.heap.size)
  case atStart =>
    exact ⟨_, _, [], hrg0, by simp, ColK.start D0, hJ [] W w0 none h0 hg0 (fun r e => by cases e), by omega⟩
  case round =>
    obtain ⟨left, cnt, ss, hrg, hcs, hC, hJs, hws⟩ := hrel
    gi_wp2_with (first
      | (gi_at_next; refine wpListIn_next_ranges _ rfl _ rfl 65 keyT73.law hR k2E id (fun key kl hk => k2_inv hk) (fun v _ _ => ⟨v, rfl⟩) b W.heap.size nn _ _ _ rfl hrg ?_ ?_)
      | gi_in)
    · intro hc0 hl0
      gi_wp2
      go_end0
      exact ⟨⟨_, rfl⟩, .inl ⟨ss, ⟨hC.1, fun x => by rw [hC.2 x, hl0]; simp⟩, hJs⟩⟩
    · intro x c kl' yd yp w2 cnt2 hkey hlk hv hat hrg2 hlt hg2 hs2 hen
      obtain rfl : kl' = k2L x := by rw [k2_rd] at hkey; simpa using hkey.symm
      have hJ2 : J ss w2 := hJ ss wr w2 (some W.heap.size) hJs hg2 (fun r e => by cases e; exact ⟨Nat.le_refl _, hrg.iter_walk⟩)
      have hg3 : w2.grownBy (w2.alloc (.cells #[.int .i64 x.x, .int .i64 x.y] 65)) none := World.grownBy_alloc w2 _ none
      have hJ3 : J ss (w2.alloc (.cells #[.int .i64 x.x, .int .i64 x.y] 65)) := hJ ss w2 _ none hJ2 hg3 (fun r e => by cases e)
      have hrg3 := hrg2.alloc (.cells #[.int .i64 x.x, .int .i64 x.y] 65)
      obtain ⟨fn, tmps, assign, body, hy, hR'⟩ := hY ss x _ hJ3 (by omega)
      simp only [k2E] at hen hy hR'
      have hC2 := hC.step hlk hat
      have hsz3 : W.heap.size < (w2.alloc (.cells #[.int .i64 x.x, .int .i64 x.y] 65)).heap.size := by simp; omega
      clear hs2
      gi_wp2
      refine hR'.mono ?_
      rintro e W3 (⟨rfl, hJ3, hk3⟩ | ⟨rfl, hJx3⟩)
      · gi_wp2
        have hrg4 := hrg3.of_walks hk3
        have hsz4 := Nat.lt_of_lt_of_le hsz3 hk3.size
        go_roundw
        case rel => exact ⟨_, cnt2, ss ++ [x], hrg4, by simp; omega, hC2, hJ3, hsz4⟩
        case measure => rw [hrg4.left_eq, hrg.left_eq]; exact hlt
      · gi_wp2
        refine bodyPost_ret (results_none rfl _ _ _) rfl ?_
        exact ⟨⟨_, rfl⟩, .inr ⟨ss ++ [x], trivial, hJx3⟩⟩

theorem keysR_stops (F : Fence) (n : Nat) (h10 : F.fn 60) (hro : F.round = none) (hn : 1 ≤ n) (Bm b nn : Nat) (D0 : DataW Value) (w : World) (hBm : Bm < w.heap.size)
    (hm : w.cell? ⟨Bm, 0, none⟩ = some (.map (some b))) (hown : w.ownsMap Try.prog (65) hR b nn D0) :
    SeqStops F n Try.prog 60 #[.pointer (some ⟨Bm, 0, none⟩)] k2E (fun ss => ss.Nodup ∧ ∀ x, x ∈ ss ↔ Maps.has D0 (k2L x) = true) (fun _ => True) (Maps.size D0) w := fun l J Jx W hW hJ _ hY h0 => by
  have hown' : W.ownsMap Try.prog (65) hR b nn D0 := by
    have hbl := hown.lt
    obtain ⟨es, clock, hb, Ft, hs, hD⟩ := hown
    exact ⟨es, clock, (hW.block b hbl).trans hb, Ft, hs, hD⟩
  exact keys1SR_in F n h10 hro hn l Bm b nn D0 J Jx hY W hJ ((hW.cell (p := ⟨Bm, 0, none⟩) hBm).trans hm) hown' h0

end Go.Proofs.Ytmbllmhpnopbdaa
