/-
  In a round of a range over a function: a region's walk outside of rounds serves in one.
-/
import Derived.RangeFuncNested
import Derived.RangeFuncBound
import Derived.RangeFuncCalls
import Derived.RangeFuncLeaves
import Derived.Shelf.Abstract
import Derived.Shelf.RegionOpen
import Derived.WalkKit
import Derived.OwnWalkIn
import Derived.TacticsInMore
import Derived.LoopNIn
import Derived.LoopIn
import Derived.RangeFuncBox
import Derived.OrdersHeld
import Derived.OrdersIn
import Derived.Test.YtmboclfgldgefaaGreatCMKvs
import Derived.Sort.MapsRangeIn
import Derived.RangeFuncStops
import Derived.Maps.AppendAt

namespace Go.Proofs.YtmboclfgldgefaaGreat
open Go.RowKit Go.Shelf
set_option linter.unusedVariables false

theorem rowsIn_wide {n : Nat} {P : Program} {row : String} {args : Array Value} {w : World} {R : Value → World → Prop} (h : Rows P row args w R) : RowsIn Fence.wide n P row args w R :=
  fun c cs _ => let ⟨v, w', r, s⟩ := h c cs; ⟨v, w', r, stepsIn_wide.2 s⟩

/-- Is it no defer statement? -/
def noDefer (o : Oper) : Bool := match o.op with | .defer _ => false | _ => true
theorem noDefer_ne {o : Oper} (h : noDefer o = true) (c : Call) : o.op ≠ .defer c := by
  intro e
  unfold noDefer at h
  rw [e] at h
  cases h

section
variable {P : Program} {Q : Exit → Act → World → Prop} {l n : Nat}

theorem wpIn_of_wp {o : Oper} {a : Act} {w : World} {K K' : Act → World → Prop} (hd : noDefer o = true) (hK : ∀ a w, K a w → K' a w) (h : o.wp P a w K Q) : o.wpIn (Fence.wide.inRound l) n P a w K' Q := by
  refine ⟨fun _ _ => trivial, ?_⟩
  rw [Oper.semAt_eq _ _ _ (noDefer_ne hd)]
  unfold Oper.wp at h
  generalize (execOp a.eval o).run P w = r at h ⊢
  cases r with
  | ok x w' =>
    cases x with
    | enter f args =>
      refine ⟨fun e => (by cases e), ?_⟩
      exact CallsIn.inRound l (callsIn_wide.2 (Calls.mono h (fun e w'' he => by cases e <;> first | exact hK _ _ he | exact he)))
    | row row args =>
      refine ⟨fun e => (by cases e), ?_⟩
      exact rowsIn_wide (Rows.mono h (fun _ _ he => hK _ _ he))
    | value v => exact hK _ _ h
    | skip => exact hK _ _ h
    | defer d => exact hK _ _ h
    | _ => exact h.elim
  | halt x w' => cases x <;> first | exact h | exact h.elim

theorem opIn_of_op {ops : Array Oper} {i : Nat} {a : Act} {w : World} {K K' : Act → World → Prop} (hQ : ¬ LetsOut Q) (hd : ops.all noDefer = true) (hK : ∀ a w, K a w → K' a w) (h : wpOp P ops Q i K a w) : wpOpIn (Fence.wide.inRound l) n P ops Q i K' a w := by
  unfold wpOp at h
  unfold wpOpIn
  cases ho : ops[i]? with
  | none => rw [ho] at h; exact hK _ _ h
  | some o =>
    rw [ho] at h
    have hdo : noDefer o = true := by
      obtain ⟨hi, he⟩ := Array.getElem?_eq_some_iff.1 ho
      rw [← he]
      exact Array.all_eq_true.1 hd i hi
    simp only at h ⊢
    split
    · rename_i hw
      rw [if_pos hw] at h
      rcases h with h | ⟨_, h⟩
      · exact wpIn_of_wp hdo hK h
      · exact absurd h hQ
    · rename_i hw
      rw [if_neg hw] at h
      exact ⟨fun _ _ => trivial, hK _ _ h⟩

theorem anyIn_of_any {md : Region.Mode} {ops : Array Oper} (hQ : ¬ LetsOut Q) (hd : ops.all noDefer = true) : ∀ (fuel : Nat) (listed : Array Bool) (a : Act) (w : World), wpAny P md ops Q fuel listed a w → wpAnyIn (Fence.wide.inRound l) n P md ops Q fuel listed a w
  | 0, _, _, _, h => h
  | fuel + 1, _, _, _, h => ⟨h.1, fun i hi => opIn_of_op hQ hd (fun a' w' h' => anyIn_of_any hQ hd fuel _ a' w' h') (h.2 i hi)⟩

theorem listIn_of_list {ops : Array Oper} (hQ : ¬ LetsOut Q) : ∀ (rest : List Oper) (hd : rest.all noDefer = true) (a : Act) (w : World), wpList P ops Q rest a w → wpListIn (Fence.wide.inRound l) n P ops Q rest a w
  | [], _, _, _, h => h
  | o :: rest, hd, a, w, h => by
    simp only [List.all_cons, Bool.and_eq_true] at hd
    unfold wpListIn
    unfold wpList at h
    split
    · rename_i hw
      rw [if_pos hw] at h
      rcases h with h | ⟨_, h⟩
      · exact wpIn_of_wp hd.1 (fun a' w' h' => listIn_of_list hQ rest hd.2 a' w' h') h
      · exact absurd h hQ
    · rename_i hw
      rw [if_neg hw] at h
      exact ⟨fun _ _ => trivial, listIn_of_list hQ rest hd.2 _ _ h⟩

/-- A region in the order of the text. -/
theorem roundRegion {id : Nat} {ops : List Oper} {a : Act} {w : World} (hQ : ¬ LetsOut Q) (hd : ops.all noDefer = true) (h : wpList P ops.toArray Q ops a w) : (Code.region id ops.toArray false).wpIn (Fence.wide.inRound l) n P Q a w :=
  wpIn_region_lit (listIn_of_list hQ ops hd a w h)

/-- A region that draws its order. -/
theorem roundDrawn {id : Nat} {ops : Array Oper} {a : Act} {w : World} {S : World → Prop} (hQ : ¬ LetsOut Q) (hd : ops.all noDefer = true) (hm : P.follows .mixedOrders = true) (hS : S w.drew)
    (h : S w.drew → wpAnyH P .any ops Q S ops.size (Array.replicate ops.size false) a w.drew) : (Code.region id ops true).wpIn (Fence.wide.inRound l) n P Q a w :=
  wpIn_region_any hm (anyIn_of_any hQ hd _ _ _ _ (wpAny_of_held _ _ _ _ (h hS)))

theorem letsOut_then {K : Act → World → Prop} (h : ¬ LetsOut Q) : ¬ LetsOut (Exit.then K Q) := fun ⟨a, w, e⟩ => h ⟨a, w, e⟩
theorem letsOut_block {id : Nat} (h : ¬ LetsOut Q) : ¬ LetsOut (Exit.inBlock id Q) := fun ⟨a, w, e⟩ => h ⟨a, w, e⟩
end

end Go.Proofs.YtmboclfgldgefaaGreat

/-
  maps.Keys over maps whose keys are pairs: each key comes once.
-/
namespace Go.Proofs.YtmboclfgldgefaaGreat
open Go.RowKit Go.Maps Go.Shelf Go.Sort
set_option linter.unusedVariables false

/-- A pair that may be a key. -/
structure K3 where
  x : Int
  y : Int
  h : Kw x y
def k2E (x : K3) : Value := .agg #[.int .i64 x.x, .int .i64 x.y]
def k2L (x : K3) : Lit := kl x.x x.y
theorem k2_rd (x : K3) : keyOf Tryz.prog 75 (k2E x) = some (k2L x) := kOf73 _ _ x.h
theorem k2L_inj {x y : K3} (h : k2L x = k2L y) : x = y := by
  obtain ⟨h1, h2⟩ := kl_inj x.h y.h h
  obtain ⟨a, b, _⟩ := x
  obtain ⟨c, d, _⟩ := y
  simp only at h1 h2
  subst h1 h2
  rfl
theorem k2_key (x : K3) : WideAt.IsKeyLit (k2L x) := trivial

set_option maxRecDepth 100000 in
theorem lits2_inv {d : Nat} {cs : List Value} {l : List Lit} (h : Tryz.prog.keyLits d 2 cs = some l) : ∃ x, cs = [.int .i64 x] ∧ (Lit.int .i64 x).wf = true := by
  obtain ⟨x, rfl, rfl⟩ := Go.keyLits_int' Tryz.underlying2 h
  refine ⟨x, rfl, ?_⟩
  cases d with
  | zero => simp [Program.keyLits] at h
  | succ d =>
    unfold Program.keyLits at h
    rw [Tryz.underlying2] at h
    simpa using h

set_option maxRecDepth 100000 in
theorem k2_inv {key : Value} {l : Lit} (h : keyOf Tryz.prog 75 key = some l) : ∃ x : K3, key = k2E x := by
  have c1 : Tryz.prog.cellsOf 75 = 2 := by kernel_rfl
  have c2 : Tryz.prog.cellsOf 2 = 1 := by kernel_rfl
  unfold keyOf at h
  rw [Tryz.underlying75] at h
  simp only at h
  split at h
  · rename_i hk
    simp only [Bool.and_eq_true] at hk
    obtain ⟨_, hf⟩ := hk
    simp only [Option.map_eq_some_iff] at h
    obtain ⟨ls, hls, _⟩ := h
    generalize Tryz.prog.types.size + 1 = d at hls
    cases d with
    | zero => simp [Program.keyLits] at hls
    | succ d =>
    unfold Program.keyLits at hls
    rw [Tryz.underlying75] at hls
    cases key with
    | agg cs =>
      have hsz : cs.size = 2 := by
        unfold Value.formed at hf
        rw [Tryz.underlying75] at hf
        simpa [c1] using hf
      obtain ⟨a, b, rfl⟩ : ∃ a b, cs = #[a, b] := by
        obtain ⟨l⟩ := cs
        match l, hsz with
        | [a, b], _ => exact ⟨a, b, rfl⟩
      simp [Value.cells, c1, c2] at hls
      cases h0 : Tryz.prog.keyLits d 2 [a] with
      | none => rw [h0] at hls; simp at hls
      | some l0 =>
      cases h1 : Tryz.prog.keyLits d 2 [b] with
      | none => rw [h0, h1] at hls; simp at hls
      | some l1 =>
      obtain ⟨x, ex, wx⟩ := lits2_inv h0
      obtain ⟨y, ey, wy⟩ := lits2_inv h1
      simp at ex ey
      exact ⟨⟨x, y, wx, wy⟩, by rw [ex, ey]; rfl⟩
    | _ => simp [Value.formed, Tryz.underlying75] at hf
  · cases h

/-- Which keys have come. -/
def ColK (D0 : DataW Value) (left : Lit → Bool) (ss : List K3) : Prop := ss.Nodup ∧ ∀ x, x ∈ ss ↔ (Maps.has D0 (k2L x) = true ∧ left (k2L x) = false)
theorem ColK.start (D0 : DataW Value) : ColK D0 (Maps.has D0) [] := ⟨List.nodup_nil, fun x => by cases Maps.has D0 (k2L x) <;> simp⟩
theorem ColK.step {D0 : DataW Value} {left : Lit → Bool} {ss : List K3} (h : ColK D0 left ss) {x : K3} {y : DataW Value} (hlk : left (k2L x) = true) (hat : ∀ zd, D0.atKey (k2L x) zd = y) : ColK D0 (fun z => left z && !z.sameKey (k2L x)) (ss ++ [x]) := by
  have hhas : Maps.has D0 (k2L x) = true := Maps.has_true_of_atKey hat
  have hnew : x ∉ ss := fun hx => by have := ((h.2 x).1 hx).2; rw [hlk] at this; cases this
  refine ⟨List.nodup_append.2 ⟨h.1, by simp, fun a ha b hb => by simp at hb; subst hb; exact fun e => hnew (e ▸ ha)⟩, fun y => ?_⟩
  rw [List.mem_append, h.2 y]
  by_cases e : y = x
  · subst e
    simp [hhas, WideAt.sameKey_self (k2_key y)]
  · have : (k2L y).sameKey (k2L x) = false := Maps.sameKey_ne (fun e' => e (k2L_inj e'))
    simp [this, e]


set_option maxRecDepth 100000 in
set_option maxHeartbeats 1000000 in
theorem keys1SR_in (F : Fence) (n : Nat) (h10 : F.fn 122) (hro : F.round = none) (hn : 1 ≤ n) (l Bm b nn : Nat) (D0 : DataW Value) (J Jx : List K3 → World → Prop)
    (hY : ∀ pre x W, J pre W → pre.length < Maps.size D0 → YieldAt F (n - 1) Tryz.prog l #[k2E x] W fun e W' =>
      (e = .returned (.bool true) ∧ J (pre ++ [x]) W' ∧ KeepsWalks W W') ∨ (e = .returned (.bool false) ∧ Jx (pre ++ [x]) W'))
    (W : World) (hJ : AbidesFrom W.heap.size J) (hm : W.cell? ⟨Bm, 0, none⟩ = some (.map (some b))) (hown : W.ownsMap Tryz.prog 75 hR b nn D0) (h0 : J [] W) :
    CallsIn F n Tryz.prog 122 #[.func (.yield l) #[] #[], .pointer (some ⟨Bm, 0, none⟩)] W fun e W' => (∃ v, e = .returned v) ∧
      ((∃ ss : List K3, (ss.Nodup ∧ ∀ x, x ∈ ss ↔ Maps.has D0 (k2L x) = true) ∧ J ss W') ∨ (∃ pre : List K3, True ∧ Jx pre W')) := by
  refine callsIn_of_wp Tryz.func122 rfl h10 ?_ hro
  simp only [Tryz.ntmps122, List.size_toArray, List.length_cons, List.length_nil, Nat.reduceAdd, Nat.reduceSub, Array.replicate_succ, Array.replicate_zero, List.push_toArray, List.append_toArray, List.nil_append, List.cons_append]
  gi_wp2_with (first
    | (gi_at_range; refine wpListIn_range_own _ rfl _ 119 rfl 75 76 keyT73.law Tryz.underlying119 _ b nn _ rfl hown ?_; intro w0 hrg0 hg0 hs0)
    | gi_in)
  go_frame
  gi_loopw [3] (fun _ wr => ∃ (left : Lit → Bool) (cnt : Nat) (ss : List K3), wr.ranges Tryz.prog 75 hR b W.heap.size nn D0 left cnt ∧ ss.length + cnt ≤ Maps.size D0 ∧ ColK D0 left ss ∧ J ss wr ∧ W.heap.size < wr.heap.size)
    (fun _ wr => wr.rangeLeft b W.heap.size)
  case atStart =>
    exact ⟨_, _, [], hrg0, by simp, ColK.start D0, hJ [] W w0 none h0 hg0 (fun r e => by cases e), by omega⟩
  case round =>
    obtain ⟨left, cnt, ss, hrg, hcs, hC, hJs, hws⟩ := hrel
    gi_wp2_with (first
      | (gi_at_next; refine wpListIn_next_ranges _ rfl _ rfl 75 keyT73.law hR k2E id (fun key kl hk => k2_inv hk) (fun v _ _ => ⟨v, rfl⟩) b W.heap.size nn _ _ _ rfl hrg ?_ ?_)
      | gi_in)
    · intro hc0 hl0
      gi_wp2
      go_end0
      exact ⟨⟨_, rfl⟩, .inl ⟨ss, ⟨hC.1, fun x => by rw [hC.2 x, hl0]; simp⟩, hJs⟩⟩
    · intro x c kl' yd yp w2 cnt2 hkey hlk hv hat hrg2 hlt hg2 hs2 hen
      obtain rfl : kl' = k2L x := by rw [k2_rd] at hkey; simpa using hkey.symm
      have hJ2 : J ss w2 := hJ ss wr w2 (some W.heap.size) hJs hg2 (fun r e => by cases e; exact ⟨Nat.le_refl _, hrg.iter_walk⟩)
      have hg3 : w2.grownBy (w2.alloc (.cells #[.int .i64 x.x, .int .i64 x.y] 75)) none := World.grownBy_alloc w2 _ none
      have hJ3 : J ss (w2.alloc (.cells #[.int .i64 x.x, .int .i64 x.y] 75)) := hJ ss w2 _ none hJ2 hg3 (fun r e => by cases e)
      have hrg3 := hrg2.alloc (.cells #[.int .i64 x.x, .int .i64 x.y] 75)
      obtain ⟨fn, tmps, assign, body, hy, hR'⟩ := hY ss x _ hJ3 (by omega)
      simp only [k2E] at hen hy hR'
      have hC2 := hC.step hlk hat
      have hsz3 : W.heap.size < (w2.alloc (.cells #[.int .i64 x.x, .int .i64 x.y] 75)).heap.size := by simp; omega
      clear hs2
      gi_wp2
      refine hR'.mono ?_
      rintro e W3 (⟨rfl, hJ3, hk3⟩ | ⟨rfl, hJx3⟩)
      · gi_wp2
        have hrg4 := hrg3.of_walks hk3
        have hsz4 := Nat.lt_of_lt_of_le hsz3 hk3.size
        go_roundw
        case rel => exact ⟨_, cnt2, ss ++ [x], hrg4, by simp; omega, hC2, hJ3, hsz4⟩
        case measure => rw [hrg4.left_eq, hrg.left_eq]; exact hlt
      · gi_wp2
        refine bodyPost_ret (results_none rfl _ _ _) rfl ?_
        exact ⟨⟨_, rfl⟩, .inr ⟨ss ++ [x], trivial, hJx3⟩⟩

theorem keysR_stops (F : Fence) (n : Nat) (h10 : F.fn 122) (hro : F.round = none) (hn : 1 ≤ n) (Bm b nn : Nat) (D0 : DataW Value) (w : World) (hBm : Bm < w.heap.size)
    (hm : w.cell? ⟨Bm, 0, none⟩ = some (.map (some b))) (hown : w.ownsMap Tryz.prog 75 hR b nn D0) :
    SeqStops F n Tryz.prog 122 #[.pointer (some ⟨Bm, 0, none⟩)] k2E (fun ss => ss.Nodup ∧ ∀ x, x ∈ ss ↔ Maps.has D0 (k2L x) = true) (fun _ => True) (Maps.size D0) w := fun l J Jx W hW hJ _ hY h0 => by
  have hown' : W.ownsMap Tryz.prog 75 hR b nn D0 := by
    have hbl := hown.lt
    obtain ⟨es, clock, hb, Ft, hs, hD⟩ := hown
    exact ⟨es, clock, (hW.block b hbl).trans hb, Ft, hs, hD⟩
  exact keys1SR_in F n h10 hro hn l Bm b nn D0 J Jx hY W hJ ((hW.cell (p := ⟨Bm, 0, none⟩) hBm).trans hm) hown' h0

end Go.Proofs.YtmboclfgldgefaaGreat

/-
  slices.AppendSeq, Collect over keys.
-/
namespace Go.Proofs.YtmboclfgldgefaaGreat
open Go.RowKit Go.Maps Go.Shelf
set_option linter.unusedVariables false

def k2F (x : K3) : List Value := [.int .i64 x.x, .int .i64 x.y]
theorem k2F_len (x : K3) : (k2F x).length = 2 := rfl
theorem infoKa' : (Tryz.prog.info? 75).map (fun i => (i.zero, i.size, i.bytes)) = some (some (.agg #[.int .i64 0, .int .i64 0]), 2, 16) := by kernel_rfl
theorem infoKa : ∃ i, Tryz.prog.info? 75 = some i ∧ i.zero = some (.agg #[.int .i64 0, .int .i64 0]) ∧ i.size = 2 ∧ i.bytes = 16 := by
  have h := infoKa'
  cases hi : Tryz.prog.info? 75 with
  | none => rw [hi] at h; simp at h
  | some i => rw [hi] at h; simp at h; exact ⟨i, rfl, h.1, h.2.1, h.2.2⟩

/-- What a round finds. -/
def ApI (w : World) (B : Nat) (pre : List K3) (W : World) : Prop := (∃ v, Boxed W B 51 v ∧ W.ownsRow w.heap.size 75 2 v pre.length (flat k2F pre)) ∧ Below w.heap.size w W

theorem ownsRow_other {W W' : World} {base e size n : Nat} {v : Value} {xs : List Value} (h : W.ownsRow base e size v n xs) {row : Option Nat} (hg : W.grownBy W' row) (hr : ∀ r, row = some r → ∃ o : Obj, W.heap[r]? = some o ∧ o.isCells = false) : W'.ownsRow base e size v n xs := by
  obtain ⟨hl, h1 | ⟨g, cap, cur, rfl, hbb, hc, r⟩⟩ := h
  · exact ⟨hl, .inl h1⟩
  · refine ⟨hl, .inr ⟨g, cap, cur, rfl, hbb, (hg.block g (Array.getElem?_eq_some_iff.1 hc).1 (fun e => ?_)).trans hc, r⟩⟩
    obtain ⟨o, ho, hcc⟩ := hr g e.symm
    rw [hc] at ho
    cases ho
    cases hcc

theorem apI_own (w : World) (B : Nat) {D : Nat} (hD : w.heap.size ≤ D) : OwnFrom D (ApI w B) := by
  rintro pre W W' row ⟨⟨v, hv, hb⟩, g⟩ hg hr
  have hr' : ∀ r, row = some r → ∃ o : Obj, W.heap[r]? = some o ∧ o.isCells = false := fun r e => (hr r e).2
  refine ⟨⟨v, hv.kept hg (fun e => ?_), ownsRow_other hb hg hr'⟩, g.grown hg (Nat.le_trans (Nat.le_refl _) g.size) (fun k e => Nat.le_trans hD (hr k e).1)⟩
  obtain ⟨o, ho, hc⟩ := hr' B e.symm
  rw [show W.heap[B]? = _ from hv] at ho
  cases ho
  cases hc

theorem keyBox_own (D : Nat) {x : K3} {a' : Act} (mk : Nat → Act) {L : Nat} : OwnFrom D (fun (_ : Unit) W => ∃ Bx, L ≤ Bx ∧ W.heap[Bx]? = some (.cells #[.int .i64 x.x, .int .i64 x.y] 75 (0, 0)) ∧ a' = mk Bx) := by
  rintro _ W W' row ⟨Bx, h0, h1, h2⟩ hg hr
  refine ⟨Bx, h0, (hg.block Bx (Array.getElem?_eq_some_iff.1 h1).1 (fun e => ?_)).trans h1, h2⟩
  obtain ⟨_, o, ho, hc⟩ := hr Bx e.symm
  rw [h1] at ho
  cases ho
  cases hc

theorem walks_of {W W' : World} (h : KeepsOthers W W') : KeepsWalks W W' := ⟨h.size, fun k o hk hw => h.same k o hk (Obj.not_cells_of_walk hw)⟩

set_option maxRecDepth 100000 in
set_option maxHeartbeats 4000000 in
theorem appendSeq_any (gf : Nat) (lb : Array Value) (S : List K3 → Prop) (N : Nat) (w : World) (hN : N ≤ 100000)
    (hgf : ∀ args w, (callFunc gf args).run Tryz.prog w = .ok (.enter gf args) w)
    (hseq : ∀ W, Below w.heap.size w W → SeqStops Fence.wide 9 Tryz.prog gf lb k2E S (fun _ => True) N W) :
    Calls Tryz.prog 126 #[.slice none 0 0, .func (.func gf) #[] lb] w fun e w' => ∃ v ss, e = .returned v ∧ S ss ∧ Below w.heap.size w w' ∧ w'.ownsRow w.heap.size 75 2 v ss.length (flat k2F ss) := by
  obtain ⟨i5, hi5, hz50, hz51, hz52⟩ := infoKa
  refine (callsIn_wide (n := 10)).1 ?_
  refine callsIn_of_wp_marks Tryz.func126 rfl trivial ?_ rfl
  simp only [Tryz.ntmps126, List.size_toArray, List.length_cons, List.length_nil, Nat.reduceAdd, Nat.reduceSub, Array.replicate_succ, Array.replicate_zero, List.push_toArray, List.append_toArray, List.nil_append, List.cons_append]
  refine wpIn_seq_k fun K hK => ?_
  refine wpIn_wide.2 ?_
  go_wp2_with fail
  generalize hV : World.alloc w _ = V
  have bV : Boxed V w.heap.size 51 (.slice none 0 0) := by rw [← hV]; exact Boxed.new w 51 (.slice none 0 0)
  have gw : Below w.heap.size w V := by rw [← hV]; exact (Below.refl _ _).alloc (Nat.le_refl _) _
  clear hV
  refine wpIn_seq_k fun K3' hK2 => ?_
  refine wpIn_seq_k fun K3 hK3 => ?_
  refine wpIn_wide.2 ?_
  go_wp2_with fail
  refine wpIn_block ?_
  have hB := bV.lt
  refine wpIn_rangeFunc_ownH (n := 10) rfl (by omega) (gf := gf) (lb := lb) rfl trivial hgf (encs := fun x => #[k2E x]) (Kp := KeepsWalks) (hseq V gw) walksK_t walksK_b (Below.refl _ _) (fun _ => rfl)
    (ApI w w.heap.size) (fun _ _ _ => False) (apI_own w w.heap.size gw.size) (fun _ _ _ _ _ hs _ _ => hs) ⟨⟨_, bV, ownsRow_nil _ _ _ _⟩, gw⟩
    (fun x a' W => ∃ Bx, 0 ≤ Bx ∧ W.heap[Bx]? = some (.cells #[.int .i64 x.x, .int .i64 x.y] 75 (0, 0)) ∧ a' = { tmps := #[.slice none 0 0, .func (.func gf) #[] lb, .pointer (some ⟨w.heap.size, 0, none⟩), undef, .slice none 0 0, .pointer (some ⟨Bx, 0, none⟩), .func (.func gf) #[] lb, .agg #[.int .i64 x.x, .int .i64 x.y], undef, undef, undef, undef, undef], defers := [] })
    (fun x a' => keyBox_own V.heap.size _) ?assign ?body ?done ?stop
  case assign =>
    rintro l pre x W K' hi hK'
    refine roundRegion (fun h => by obtain ⟨_, _, h⟩ := h; exact h) (by kernel_rfl) ?_
    obtain ⟨⟨v, hv, hb⟩, g⟩ := hi
    have gA : Below W.heap.size W (W.alloc (.cells #[.int .i64 x.x, .int .i64 x.y] 75)) := (Below.refl _ W).alloc (Nat.le_refl _) _
    simp only [k2E]
    go_wp2_with fail
    exact hK' _ _ ((KeepsOthers.alloc _ _).from _) (KeepsWalks.alloc _ _) ⟨⟨v, hv.alloc _, ownsRow_below hb gA⟩, g.trans (gA.mono g.size)⟩ ⟨W.heap.size, Nat.zero_le _, World.alloc_heap_new W _, rfl⟩
  case body =>
    rintro l pre x a' W hl hr ⟨⟨v, hv, hrow⟩, g⟩ ⟨Bx, hBx, hbx, rfl⟩ hlt
    have b0 : W.cell? ⟨Bx, 0, none⟩ = some (.int .i64 x.x) := by simp [World.cell?, hbx]
    have b1 : W.cell? ⟨Bx, 1, none⟩ = some (.int .i64 x.y) := by simp [World.cell?, hbx]
    have hc := hv.cell
    have hgs := g.size
    refine wpIn_block ?_
    refine roundRegion (letsOut_block (fun h => by obtain ⟨_, _, h⟩ := h; exact h)) (by kernel_rfl) ?_
    go_wp2_with (at_builtin; refine wpList_append_own _ rfl _ _ 51 rfl w.heap.size 75 i5 (.agg #[.int .i64 0, .int .i64 0]) 2 16 Tryz.underlying51 hi5 hz50 hz51 hz52 rfl (by decide) _ _ _ rfl (hrow.alloc _) ⟨W.heap.size, 0, none⟩ 1 1 (k2F x) rfl rfl ?n1 ?n2 ?n3 ?n4 ?n5 ?_)
    case n1 => exact cells_new _ _ _
    case n2 => intro u hu; simp [k2F] at hu; rcases hu with rfl | rfl <;> rfl
    case n3 => unfold maxLen; omega
    case n4 => omega
    case n5 => simp; omega
    intro v' w6 hown' hgrow _
    obtain ⟨g', cap', rfl⟩ := ownsRow_succ hown'
    obtain ⟨hv1, hv2, hr2, hk2, hb2⟩ := hv.appended (by decide) hrow hgs (Nat.le_refl _) hown' hgrow
    have hc1 := hv1.cell
    have hf1 := hv1.frozen
    go_wp2_with fail
    refine ⟨hk2.from _, walks_of hk2, ⟨_, hv2, ?_⟩, g.trans hb2⟩
    rw [List.length_append, flat_append, flat_one]
    exact hr2
  case done =>
    rintro D ys W hD hS ⟨⟨v, hv, hrow⟩, g⟩ hKD
    have hc := hv.cell
    refine hK2 _ _ ?_
    refine wpIn_seq_k fun K7 hK7 => ?_
    refine wpIn_wide.2 ?_
    obtain ⟨a0, c0, rfl, _, _, _⟩ := SlIn.ofRow k2F_len hrow
    go_wp2_with fail
    refine wpIn_ret ?_
    have hrowF := ownsRow_other hrow (grownBy_putObj' W D (.deferred none)) (fun r e => by cases e; exact ⟨_, hKD, rfl⟩)
    have hVD := gw.size
    refine ⟨by simp, .inl ⟨_, _, rfl, run_takeDeferred hKD, ?_⟩⟩
    exact ⟨_, results_tmp rfl _ _ _, .slice a0 ys.length c0, ys, by rfl, hS, g.trans (belowK_b (w := w) (Nat.le_refl _) W D _ _ (by omega) hKD rfl rfl), hrowF⟩
  case stop =>
    rintro D c pre W _ _ h _
    exact h.elim

set_option maxHeartbeats 400000 in
theorem collect_any (gf : Nat) (lb : Array Value) (S : List K3 → Prop) (N : Nat) (w : World) (hN : N ≤ 100000)
    (hgf : ∀ args w, (callFunc gf args).run Tryz.prog w = .ok (.enter gf args) w)
    (hseq : ∀ W, Below w.heap.size w W → SeqStops Fence.wide 9 Tryz.prog gf lb k2E S (fun _ => True) N W) :
    Calls Tryz.prog 120 #[.func (.func gf) #[] lb] w fun e w' => ∃ v ss, e = .returned v ∧ S ss ∧ Below w.heap.size w w' ∧ w'.ownsRow w.heap.size 75 2 v ss.length (flat k2F ss) := by
  go_enter Tryz.func120, Tryz.ntmps120
  go_wp2_with fail
  refine (appendSeq_any gf lb S N _ hN hgf hseq).mono ?_
  rintro e w1 ⟨v, ss, rfl, hS, g, ho⟩
  go_wp2_with fail
  go_ret
  exact ⟨v, ss, rfl, hS, g, ho⟩

end Go.Proofs.YtmboclfgldgefaaGreat
