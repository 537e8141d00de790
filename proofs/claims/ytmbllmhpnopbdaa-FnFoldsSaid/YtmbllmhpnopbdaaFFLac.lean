/-
  The model's ApplyChanges.
-/
import Derived.Test.YtmbllmhpnopbdaaFFLky
import Derived.RangeFuncNested
import Derived.RangeFuncBound
import Derived.RangeFuncCalls
import Derived.RangeFuncLeaves
import Derived.Shelf.Abstract
import Derived.Shelf.RegionOpen
import Derived.WalkKit
import Derived.OwnWalkIn
import Derived.TacticsInMore
import Derived.LoopNIn
import Derived.LoopIn
import Derived.RangeFuncBox
import Derived.OrdersHeld
import Derived.OrdersIn

namespace Go.Proofs.Ytmbllmhpnopbdaa
open Go.RowKit Go.Maps
set_option linter.unusedVariables false

theorem rowsQ_ris {rs : List Rw} (h : rowsQ rs = 0) : RisL rs ∧ rs.length ≤ 60 := by
  have h0 := rowsQ_zero h
  unfold rowsQ at h
  split at h
  · exact absurd h (by decide)
  · obtain ⟨h1, h2, _⟩ := rsF_zero rs none h
    exact ⟨⟨h2, fun r hr => rwF_zero (h1 r hr)⟩, h0.1⟩
def acQ (rs : List Rw) (cs : List Chg) : Int := if rowsQ rs = 0 then (if (apR rs cs).1 = 0 then (if 60 < (apR rs cs).2.length then 2 else 0) else (apR rs cs).1) else rowsQ rs
def acL (rs : List Rw) (cs : List Chg) : List Rw := if acQ rs cs = 0 then (apR rs cs).2 else []
theorem acQ_bad {rs : List Rw} {cs : List Chg} (h : rowsQ rs ≠ 0) : acQ rs cs = rowsQ rs := by unfold acQ; rw [if_neg h]
theorem acQ_code {rs : List Rw} {cs : List Chg} (h : rowsQ rs = 0) {q : Int} {l : List Rw} (ha : apR rs cs = (q, l)) (hq : q ≠ 0) : acQ rs cs = q := by unfold acQ; rw [if_pos h, ha]; simp [hq]
theorem acQ_end {rs : List Rw} {cs : List Chg} (h : rowsQ rs = 0) {l : List Rw} (ha : apR rs cs = (0, l)) : acQ rs cs = (if 60 < l.length then 2 else 0) := by unfold acQ; rw [if_pos h, ha]; simp
theorem acL_nil {rs : List Rw} {cs : List Chg} (h : acQ rs cs ≠ 0) : acL rs cs = [] := by unfold acL; rw [if_neg h]
theorem acL_len (rs : List Rw) (cs : List Chg) : (acL rs cs).length ≤ 60 := by
  unfold acL
  split
  · rename_i h
    unfold acQ at h
    split at h
    · split at h
      · split at h
        · exact absurd h (by decide)
        · omega
      · rename_i h1; exact absurd h h1
    · rename_i h1; exact absurd h h1
  · simp
/-- What ApplyChanges hands back. -/
def AcPost (rs : List Rw) (cs : List Chg) (w : World) (e : Ending) (w' : World) : Prop :=
  ∃ v, e = .returned (.agg #[.int .i64 (acQ rs cs), v]) ∧ Below w.heap.size w w' ∧ w'.ownsRow w.heap.size 26 4 v (acL rs cs).length (flat rwE (acL rs cs))
theorem AcPost.form {rs : List Rw} {cs : List Chg} {w w' : World} {e : Ending} (h : AcPost rs cs w e w') : ∃ a c, e = .returned (.agg #[.int .i64 (acQ rs cs), .slice a (acL rs cs).length c]) ∧ Below w.heap.size w w' ∧ SlIn rwE 4 w.heap.size w'.heap.size w' a (acL rs cs) := by
  obtain ⟨v, rfl, g, ho⟩ := h
  obtain ⟨a, c, rfl, _, hi, _⟩ := SlIn.ofRow rwE_len ho
  exact ⟨a, c, rfl, g, hi⟩
theorem AcPost.code {rs : List Rw} {cs : List Chg} {w w' : World} {q : Int} (hq : acQ rs cs = q) (h0 : q ≠ 0) (g : Below w.heap.size w w') : AcPost rs cs w (.returned (.agg #[.int .i64 q, .slice none 0 0])) w' := by
  refine ⟨_, by rw [hq], g, ?_⟩
  rw [acL_nil (by rw [hq]; exact h0)]
  exact ownsRow_nil _ _ _ _
theorem drop_chg {cs : List Chg} {j : Nat} {c : Chg} (h : cs[j]? = some c) : cs.drop j = c :: cs.drop (j + 1) := by
  obtain ⟨hl, e⟩ := List.getElem?_eq_some_iff.1 h
  rw [← e]; exact List.drop_eq_getElem_cons hl

end Go.Proofs.Ytmbllmhpnopbdaa

/-
  In a round of a range over a function: a region's walk outside of rounds serves in one.
-/
namespace Go.Proofs.Ytmbllmhpnopbdaa
open Go.RowKit Go.Shelf
set_option linter.unusedVariables false

theorem rowsIn_wide {n : Nat} {P : Program} {row : String} {args : Array Value} {w : World} {R : Value → World → Prop} (h : Rows P row args w R) : RowsIn Fence.wide n P row args w R :=
  fun c cs _ => let ⟨v, w', r, s⟩ := h c cs; ⟨v, w', r, stepsIn_wide.2 s⟩

/-- Is it no defer statement? -/
def noDefer (o : Oper) : Bool := match o.op with | .defer _ => false | _ => true
theorem noDefer_ne {o : Oper} (h : noDefer o = true) (c : Call) : o.op ≠ .defer c := by
  intro e
  unfold noDefer at h
  rw [e] at h
  cases h

section
variable {P : Program} {Q : Exit → Act → World → Prop} {l n : Nat}

theorem wpIn_of_wp {o : Oper} {a : Act} {w : World} {K K' : Act → World → Prop} (hd : noDefer o = true) (hK : ∀ a w, K a w → K' a w) (h : o.wp P a w K Q) : o.wpIn (Fence.wide.inRound l) n P a w K' Q := by
  refine ⟨fun _ _ => trivial, ?_⟩
  rw [Oper.semAt_eq _ _ _ (noDefer_ne hd)]
  unfold Oper.wp at h
  generalize (execOp a.eval o).run P w = r at h ⊢
  cases r with
  | ok x w' =>
    cases x with
    | enter f args =>
      refine ⟨fun e => (by cases e), ?_⟩
      exact CallsIn.inRound l (callsIn_wide.2 (Calls.mono h (fun e w'' he => by cases e <;> first | exact hK _ _ he | exact he)))
    | row row args =>
      refine ⟨fun e => (by cases e), ?_⟩
      exact rowsIn_wide (Rows.mono h (fun _ _ he => hK _ _ he))
    | value v => exact hK _ _ h
    | skip => exact hK _ _ h
    | defer d => exact hK _ _ h
    | _ => exact h.elim
  | halt x w' => cases x <;> first | exact h | exact h.elim

theorem opIn_of_op {ops : Array Oper} {i : Nat} {a : Act} {w : World} {K K' : Act → World → Prop} (hQ : ¬ LetsOut Q) (hd : ops.all noDefer = true) (hK : ∀ a w, K a w → K' a w) (h : wpOp P ops Q i K a w) : wpOpIn (Fence.wide.inRound l) n P ops Q i K' a w := by
  unfold wpOp at h
  unfold wpOpIn
  cases ho : ops[i]? with
  | none => rw [ho] at h; exact hK _ _ h
  | some o =>
    rw [ho] at h
    have hdo : noDefer o = true := by
      obtain ⟨hi, he⟩ := Array.getElem?_eq_some_iff.1 ho
      rw [← he]
      exact Array.all_eq_true.1 hd i hi
    simp only at h ⊢
    split
    · rename_i hw
      rw [if_pos hw] at h
      rcases h with h | ⟨_, h⟩
      · exact wpIn_of_wp hdo hK h
      · exact absurd h hQ
    · rename_i hw
      rw [if_neg hw] at h
      exact ⟨fun _ _ => trivial, hK _ _ h⟩

theorem anyIn_of_any {md : Region.Mode} {ops : Array Oper} (hQ : ¬ LetsOut Q) (hd : ops.all noDefer = true) : ∀ (fuel : Nat) (listed : Array Bool) (a : Act) (w : World), wpAny P md ops Q fuel listed a w → wpAnyIn (Fence.wide.inRound l) n P md ops Q fuel listed a w
  | 0, _, _, _, h => h
  | fuel + 1, _, _, _, h => ⟨h.1, fun i hi => opIn_of_op hQ hd (fun a' w' h' => anyIn_of_any hQ hd fuel _ a' w' h') (h.2 i hi)⟩

theorem listIn_of_list {ops : Array Oper} (hQ : ¬ LetsOut Q) : ∀ (rest : List Oper) (hd : rest.all noDefer = true) (a : Act) (w : World), wpList P ops Q rest a w → wpListIn (Fence.wide.inRound l) n P ops Q rest a w
  | [], _, _, _, h => h
  | o :: rest, hd, a, w, h => by
    simp only [List.all_cons, Bool.and_eq_true] at hd
    unfold wpListIn
    unfold wpList at h
    split
    · rename_i hw
      rw [if_pos hw] at h
      rcases h with h | ⟨_, h⟩
      · exact wpIn_of_wp hd.1 (fun a' w' h' => listIn_of_list hQ rest hd.2 a' w' h') h
      · exact absurd h hQ
    · rename_i hw
      rw [if_neg hw] at h
      exact ⟨fun _ _ => trivial, listIn_of_list hQ rest hd.2 _ _ h⟩

/-- A region in the order of the text. -/
theorem roundRegion {id : Nat} {ops : List Oper} {a : Act} {w : World} (hQ : ¬ LetsOut Q) (hd : ops.all noDefer = true) (h : wpList P ops.toArray Q ops a w) : (Code.region id ops.toArray false).wpIn (Fence.wide.inRound l) n P Q a w :=
  wpIn_region_lit (listIn_of_list hQ ops hd a w h)

/-- A region that draws its order. -/
theorem roundDrawn {id : Nat} {ops : Array Oper} {a : Act} {w : World} {S : World → Prop} (hQ : ¬ LetsOut Q) (hd : ops.all noDefer = true) (hm : P.follows .mixedOrders = true) (hS : S w.drew)
    (h : S w.drew → wpAnyH P .any ops Q S ops.size (Array.replicate ops.size false) a w.drew) : (Code.region id ops true).wpIn (Fence.wide.inRound l) n P Q a w :=
  wpIn_region_any hm (anyIn_of_any hQ hd _ _ _ _ (wpAny_of_held _ _ _ _ (h hS)))

theorem letsOut_then {K : Act → World → Prop} (h : ¬ LetsOut Q) : ¬ LetsOut (Exit.then K Q) := fun ⟨a, w, e⟩ => h ⟨a, w, e⟩
theorem letsOut_block {id : Nat} (h : ¬ LetsOut Q) : ¬ LetsOut (Exit.inBlock id Q) := fun ⟨a, w, e⟩ => h ⟨a, w, e⟩
end

end Go.Proofs.Ytmbllmhpnopbdaa
