/-
  What compares, marks and looks through an EditsResult.
-/
import Derived.Test.YteebbaleejbodaaAREdb

namespace Go.Proofs.Yteebbaleejbodaa
open Go.RowKit
set_option linter.unusedVariables false

def HasE (S : Nat → Prop) (w : World) (a : Option Addr) (es : List (Int × List Int)) : Prop := es = [] ∨ ∃ b A C F, a = some ⟨b, 0, none⟩ ∧ OwnE S w b es.length (eP es) A C (eZ es) F
def HasQ (S : Nat → Prop) (w : World) (a : Option Addr) (ps : List (List Int)) : Prop := ps = [] ∨ ∃ b A C F, a = some ⟨b, 0, none⟩ ∧ OwnQ S w b ps.length A C (pZ ps) F
theorem HasE.below {S : Nat → Prop} {w w' : World} {a : Option Addr} {es : List (Int × List Int)} (h : HasE S w a es) (hb : Below w.heap.size w w') : HasE S w' a es := by
  rcases h with h | ⟨b, A, C, F, e, h⟩
  · exact .inl h
  · exact .inr ⟨b, A, C, F, e, h.below hb⟩
theorem HasQ.below {S : Nat → Prop} {w w' : World} {a : Option Addr} {ps : List (List Int)} (h : HasQ S w a ps) (hb : Below w.heap.size w w') : HasQ S w' a ps := by
  rcases h with h | ⟨b, A, C, F, e, h⟩
  · exact .inl h
  · exact .inr ⟨b, A, C, F, e, h.below hb⟩
theorem HasQ.turned {S S' : Nat → Prop} {w w' : World} {a : Option Addr} {ps : List (List Int)} (h : HasQ S w a ps) (ht : TurnS S' w w') (hn : ∀ k, S k → ¬ S' k) : HasQ S w' a ps := by
  rcases h with h | ⟨b, A, C, F, e, h⟩
  · exact .inl h
  · exact .inr ⟨b, A, C, F, e, h.turned ht hn⟩
theorem HasE.turned {S S' : Nat → Prop} {w w' : World} {a : Option Addr} {es : List (Int × List Int)} (h : HasE S w a es) (ht : TurnS S' w w') (hn : ∀ k, S k → ¬ S' k) : HasE S w' a es := by
  rcases h with h | ⟨b, A, C, F, e, h⟩
  · exact .inl h
  · exact .inr ⟨b, A, C, F, e, h.turned ht hn⟩
/-- How many values edits, and pages, have. -/
def bigE (es : List (Int × List Int)) : Nat := es.length + took (eZ es) es.length
def bigQ (ps : List (List Int)) : Nat := ps.length + took (pZ ps) ps.length

set_option maxHeartbeats 1000000 in
theorem eqEditS_has (S S' : Nat → Prop) (a b : Option Addr) (n c d : Nat) (es : List (Int × List Int)) (w : World) (hn : es.length = n) (hm : bigE es ≤ 13000000) (hx : HasE S w a es) (hy : HasE S' w b es) :
    Calls Try.prog 83 #[.slice a n c, .slice b n d] w fun e w' => e = .returned (.bool true) ∧ Below w.heap.size w w' := by
  by_cases h0 : es = []
  · subst h0
    have hn0 : n = 0 := by simpa using hn.symm
    subst hn0
    clear hx hy hn
    go_enter Try.func83, Try.ntmps83
    go_wp2_with fail
    go_rounds 1
    go_ret
    exact ⟨rfl, Below.refl _ _⟩
  · rcases hx with h | ⟨x, A, C, F, rfl, hx⟩
    · exact absurd h h0
    · rcases hy with h | ⟨y, B, D, G, rfl, hy⟩
      · exact absurd h h0
      · subst hn
        exact eqEditS_own x y es.length c d (eP es) A B C D (eZ es) F G S S' w hm hx hy
set_option maxHeartbeats 1000000 in
theorem eqByteSS_has (S S' : Nat → Prop) (a b : Option Addr) (n c d : Nat) (ps : List (List Int)) (w : World) (hn : ps.length = n) (hm : bigQ ps ≤ 13000000) (hx : HasQ S w a ps) (hy : HasQ S' w b ps) :
    Calls Try.prog 27 #[.slice a n c, .slice b n d] w fun e w' => e = .returned (.bool true) ∧ Below w.heap.size w w' := by
  by_cases h0 : ps = []
  · subst h0
    have hn0 : n = 0 := by simpa using hn.symm
    subst hn0
    clear hx hy hn
    go_enter Try.func27, Try.ntmps27
    go_wp2_with fail
    go_rounds 1
    go_ret
    exact ⟨rfl, Below.refl _ _⟩
  · rcases hx with h | ⟨x, A, C, F, rfl, hx⟩
    · exact absurd h h0
    · rcases hy with h | ⟨y, B, D, G, rfl, hy⟩
      · exact absurd h h0
      · subst hn
        unfold bigQ at hm
        refine eqByteSS_q x y ps.length c d A B C D (pZ ps) F G S S' w ?_ (fun i hi => ?_) hx hy
        · omega
        · have := took_one (pZ ps) i ps.length hi
          omega
set_option maxHeartbeats 1000000 in
theorem eqEditsResult_same (q : Int) (S1 S2 S3 S4 : Nat → Prop) (a b x y : Option Addr) (n m c d c' d' : Nat) (es : List (Int × List Int)) (ps : List (List Int)) (w : World) (hn : es.length = n) (hp : ps.length = m) (hm : bigE es ≤ 13000000) (hm' : bigQ ps ≤ 13000000) (h1 : HasE S1 w a es) (h2 : HasQ S2 w b ps) (h3 : HasE S3 w x es) (h4 : HasQ S4 w y ps) :
    Calls Try.prog 35 #[.agg #[.int .i64 q, .slice a n c, .slice b m d], .agg #[.int .i64 q, .slice x n c', .slice y m d']] w fun e w' => e = .returned (.bool true) ∧ Below w.heap.size w w' := by
  have gX : Below w.heap.size w ((w.alloc (.cells #[.int .i64 q, .slice a n c, .slice b m d] 62)).alloc (.cells #[.int .i64 q, .slice x n c', .slice y m d'] 62)) := by go_grown
  obtain ⟨X, hX⟩ : ∃ X, (w.alloc (.cells #[.int .i64 q, .slice a n c, .slice b m d] 62)).alloc (.cells #[.int .i64 q, .slice x n c', .slice y m d'] 62) = X := ⟨_, rfl⟩
  have p0 : X.cell? ⟨w.heap.size, 0, none⟩ = some (.int .i64 q) := by rw [← hX]; simp [go_sem]
  have p1 : X.cell? ⟨w.heap.size, 1, none⟩ = some (.slice a n c) := by rw [← hX]; simp [go_sem]
  have p2 : X.cell? ⟨w.heap.size, 2, none⟩ = some (.slice b m d) := by rw [← hX]; simp [go_sem]
  have q0 : X.cell? ⟨w.heap.size + 1, 0, none⟩ = some (.int .i64 q) := by rw [← hX]; simp [go_sem]
  have q1 : X.cell? ⟨w.heap.size + 1, 1, none⟩ = some (.slice x n c') := by rw [← hX]; simp [go_sem]
  have q2 : X.cell? ⟨w.heap.size + 1, 2, none⟩ = some (.slice y m d') := by rw [← hX]; simp [go_sem]
  rw [hX] at gX
  have h1 := h1.below gX
  have h2 := h2.below gX
  have h3 := h3.below gX
  have h4 := h4.below gX
  have hcon := eqEditS_has S1 S3 a x n c c' es X hn hm h1 h3
  have HC2 : Hid (∀ V, Below X.heap.size X V → Calls Try.prog 27 #[.slice b m d, .slice y m d'] V fun e w' => e = .returned (.bool true) ∧ Below V.heap.size V w') := fun V hV => eqByteSS_has S2 S4 b y m d d' ps V hp hm' (h2.below hV) (h4.below hV)
  have hb0 : w.heap.size < X.heap.size := World.block_lt_of_cell? _ _ p0
  have hb1 : w.heap.size + 1 < X.heap.size := World.block_lt_of_cell? _ _ q0
  clear h1 h2 h3 h4 hm hm' hn hp
  go_enter Try.func35, Try.ntmps35
  go_wp2_with (go_at_call 83; refine hcon.mono ?_)
  rintro e w1 ⟨rfl, g1⟩
  have p2 := (g1.cell hb0).trans p2
  have q2 := (g1.cell hb1).trans q2
  have hcon2 := HC2.out _ g1
  have g := gX.trans (g1.mono gX.size)
  clear p0 p1 q0 q1 hcon g1 gX hX HC2
  go_wp2_with (go_at_call 27; refine hcon2.mono ?_)
  rintro e w2 ⟨rfl, g2⟩
  have g := g.trans (g2.mono g.size)
  clear g2 hcon2 p2 q2
  go_wp2_with fail
  go_ret
  exact ⟨rfl, g⟩

/-- Marked edits and pages. -/
def MarkE (S : Nat → Prop) (w : World) (a : Option Addr) (es : List (Int × List Int)) (k : Int) : Prop := es = [] ∨ ∃ b A C F, a = some ⟨b, 0, none⟩ ∧ OwnE S w b es.length (mk (eZ es) k) A C (mZ (eZ es) k) F
def MarkQ (S : Nat → Prop) (w : World) (a : Option Addr) (ps : List (List Int)) (k : Int) : Prop := ps = [] ∨ ∃ b A C F, a = some ⟨b, 0, none⟩ ∧ OwnQ S w b ps.length A C (mZP (pZ ps) k) F
theorem MarkE.below {S : Nat → Prop} {w w' : World} {a : Option Addr} {es : List (Int × List Int)} {k : Int} (h : MarkE S w a es k) (hb : Below w.heap.size w w') : MarkE S w' a es k := by
  rcases h with h | ⟨b, A, C, F, e, h⟩
  · exact .inl h
  · exact .inr ⟨b, A, C, F, e, h.below hb⟩
theorem MarkQ.below {S : Nat → Prop} {w w' : World} {a : Option Addr} {ps : List (List Int)} {k : Int} (h : MarkQ S w a ps k) (hb : Below w.heap.size w w') : MarkQ S w' a ps k := by
  rcases h with h | ⟨b, A, C, F, e, h⟩
  · exact .inl h
  · exact .inr ⟨b, A, C, F, e, h.below hb⟩
theorem MarkE.turned {S S' : Nat → Prop} {w w' : World} {a : Option Addr} {es : List (Int × List Int)} {k : Int} (h : MarkE S w a es k) (ht : TurnS S' w w') (hn : ∀ k, S k → ¬ S' k) : MarkE S w' a es k := by
  rcases h with h | ⟨b, A, C, F, e, h⟩
  · exact .inl h
  · exact .inr ⟨b, A, C, F, e, h.turned ht hn⟩
/-- The number behind the marks of edits. -/
def endE (es : List (Int × List Int)) (k : Int) : Int := mk (eZ es) k es.length
def endQ (ps : List (List Int)) (k : Int) : Int := mkP (pZ ps) k ps.length

set_option maxHeartbeats 1000000 in
theorem markEditS_has (S : Nat → Prop) (a : Option Addr) (n c : Nat) (es : List (Int × List Int)) (k : Int) (w : World) (hn : es.length = n) (hm : bigE es ≤ 13000000) (hk0 : 0 ≤ k) (hk1 : k ≤ 10000000) (h : HasE S w a es) :
    Calls Try.prog 86 #[.slice a n c, .int .i64 k] w fun e w' => e = .returned (.int .i64 (endE es k)) ∧ TurnS S w w' ∧ MarkE S w' a es k := by
  by_cases h0 : es = []
  · subst h0
    have hn0 : n = 0 := by simpa using hn.symm
    subst hn0
    have HE : Hid (endE [] k = k) := by show _ = _; simp [endE, mk, took]
    clear h hn
    go_enter Try.func86, Try.ntmps86
    go_wp2_with fail
    go_rounds 1
    go_ret
    exact ⟨by rw [HE.out]; rfl, TurnS.refl _ _, .inl rfl⟩
  · rcases h with h | ⟨b, A, C, F, rfl, h⟩
    · exact absurd h h0
    · subst hn
      refine (markEditS_q b es.length c S (eP es) A C (eZ es) F k w hm hk0 hk1 h).mono ?_
      rintro e w' ⟨h1, h2, h3⟩
      exact ⟨h1, h2, .inr ⟨b, A, C, F, rfl, h3⟩⟩
set_option maxHeartbeats 1000000 in
theorem markByteSS_has (S : Nat → Prop) (a : Option Addr) (n c : Nat) (ps : List (List Int)) (k : Int) (w : World) (hn : ps.length = n) (hm : bigQ ps ≤ 13000000) (hk0 : 0 ≤ k) (hk1 : k ≤ 10000000) (h : HasQ S w a ps) :
    Calls Try.prog 28 #[.slice a n c, .int .i64 k] w fun e w' => e = .returned (.int .i64 (endQ ps k)) ∧ TurnS S w w' ∧ MarkQ S w' a ps k := by
  by_cases h0 : ps = []
  · subst h0
    have hn0 : n = 0 := by simpa using hn.symm
    subst hn0
    have HE : Hid (endQ [] k = k) := by show _ = _; simp [endQ, mkP, took]
    clear h hn
    go_enter Try.func28, Try.ntmps28
    go_wp2_with fail
    go_rounds 1
    go_ret
    exact ⟨by rw [HE.out]; rfl, TurnS.refl _ _, .inl rfl⟩
  · rcases h with h | ⟨b, A, C, F, rfl, h⟩
    · exact absurd h h0
    · subst hn
      refine (markByteSS_q b ps.length c S A C (pZ ps) F k w hm hk0 hk1 h).mono ?_
      rintro e w' ⟨h1, h2, h3⟩
      exact ⟨h1, h2, .inr ⟨b, A, C, F, rfl, h3⟩⟩
set_option maxHeartbeats 1000000 in
theorem heldEditS_has (S : Nat → Prop) (a : Option Addr) (n c : Nat) (es : List (Int × List Int)) (k : Int) (w : World) (hn : es.length = n) (hm : bigE es ≤ 13000000) (hk0 : 0 ≤ k) (hk1 : k ≤ 10000000) (h : MarkE S w a es k) :
    Calls Try.prog 87 #[.slice a n c, .int .i64 k] w fun e w' => e = .returned (.int .i64 (endE es k)) ∧ w' = w := by
  by_cases h0 : es = []
  · subst h0
    have hn0 : n = 0 := by simpa using hn.symm
    subst hn0
    have HE : Hid (endE [] k = k) := by show _ = _; simp [endE, mk, took]
    clear h hn
    go_enter Try.func87, Try.ntmps87
    go_wp2_with fail
    go_rounds 1
    go_ret
    exact ⟨by rw [HE.out]; rfl, rfl⟩
  · rcases h with h | ⟨b, A, C, F, rfl, h⟩
    · exact absurd h h0
    · subst hn
      exact heldEditS_q b es.length c S A C (eZ es) F k w hm hk0 hk1 h
set_option maxHeartbeats 1000000 in
theorem heldByteSS_has (S : Nat → Prop) (a : Option Addr) (n c : Nat) (ps : List (List Int)) (k : Int) (w : World) (hn : ps.length = n) (hm : bigQ ps ≤ 13000000) (hk0 : 0 ≤ k) (hk1 : k ≤ 10000000) (h : MarkQ S w a ps k) :
    Calls Try.prog 88 #[.slice a n c, .int .i64 k] w fun e w' => e = .returned (.int .i64 (endQ ps k)) ∧ w' = w := by
  by_cases h0 : ps = []
  · subst h0
    have hn0 : n = 0 := by simpa using hn.symm
    subst hn0
    have HE : Hid (endQ [] k = k) := by show _ = _; simp [endQ, mkP, took]
    clear h hn
    go_enter Try.func88, Try.ntmps88
    go_wp2_with fail
    go_rounds 1
    go_ret
    exact ⟨by rw [HE.out]; rfl, rfl⟩
  · rcases h with h | ⟨b, A, C, F, rfl, h⟩
    · exact absurd h h0
    · subst hn
      exact heldByteSS_q b ps.length c S A C (pZ ps) F k w hm hk0 hk1 h

theorem endE_le (es : List (Int × List Int)) {k : Int} (hm : bigE es ≤ 2000000) (h0 : 0 ≤ k) (h1 : k ≤ 5000000) : 0 ≤ endE es k ∧ endE es k ≤ 10000000 := by
  unfold bigE at hm
  unfold endE mk
  omega
theorem endQ_pos (ps : List (List Int)) {k : Int} (h0 : 0 ≤ k) : 0 ≤ endQ ps k := by
  unfold endQ mkP
  omega

theorem TurnS.mono {S S' : Nat → Prop} {w w' : World} (h : TurnS S w w') (hs : ∀ k, S k → S' k) : TurnS S' w w' := ⟨h.os, h.tape, h.output, h.size, fun k hk hn => h.block k hk (fun e => hn (hs k e))⟩

set_option maxHeartbeats 1000000 in
theorem markEditsResult_any (q : Int) (S1 S2 : Nat → Prop) (a b : Option Addr) (n m c d : Nat) (es : List (Int × List Int)) (ps : List (List Int)) (w : World) (hn : es.length = n) (hp : ps.length = m) (hm : bigE es ≤ 2000000) (hm' : bigQ ps ≤ 13000000) (h1 : HasE S1 w a es) (h2 : HasQ S2 w b ps) (hd : ∀ k, S1 k → ¬ S2 k) (hl1 : ∀ k, S1 k → k < w.heap.size) (hl2 : ∀ k, S2 k → k < w.heap.size) :
    Calls Try.prog 38 #[.agg #[.int .i64 q, .slice a n c, .slice b m d], .int .i64 1] w fun e w' => e = .returned (.int .i64 (endQ ps (endE es 1))) ∧ TurnS (fun k => S1 k ∨ S2 k) w w' ∧ MarkE S1 w' a es 1 ∧ MarkQ S2 w' b ps (endE es 1) := by
  obtain ⟨X, hX⟩ : ∃ X, w.alloc (.cells #[.int .i64 q, .slice a n c, .slice b m d] 62) = X := ⟨_, rfl⟩
  have gX : Below w.heap.size w X := by rw [← hX]; go_grown
  have p1 : X.cell? ⟨w.heap.size, 1, none⟩ = some (.slice a n c) := by rw [← hX]; simp [go_sem]
  have p2 : X.cell? ⟨w.heap.size, 2, none⟩ = some (.slice b m d) := by rw [← hX]; simp [go_sem]
  have h1 := h1.below gX
  have HH2 : Hid (HasQ S2 X b ps) := h2.below gX
  have tX : TurnS (fun k => S1 k ∨ S2 k) w X := TurnS.ofBelow gX
  have hcon := markEditS_has S1 a n c es 1 X hn (by omega) (by omega) (by omega) h1
  obtain ⟨hk0, hk1⟩ := endE_le es (k := 1) hm (by omega) (by omega)
  have HC : Hid (∀ V, HasQ S2 V b ps → Calls Try.prog 28 #[.slice b m d, .int .i64 (endE es 1)] V fun e w' => e = .returned (.int .i64 (endQ ps (endE es 1))) ∧ TurnS S2 V w' ∧ MarkQ S2 w' b ps (endE es 1)) := fun V hV => markByteSS_has S2 b m d ps (endE es 1) V hp hm' hk0 hk1 hV
  have HD : Hid (∀ k, S1 k → ¬ S2 k) := hd
  have HL1 : Hid (¬ S1 w.heap.size) := fun h => Nat.lt_irrefl _ (hl1 _ h)
  generalize endQ ps (endE es 1) = r2 at HC
  generalize endE es 1 = r1 at hcon HC hk0 hk1
  clear h1 h2 hm hm' hn hp hd hl1 hl2 gX
  go_enter Try.func38, Try.ntmps38
  go_wp2_with (go_at_call 86; refine hcon.mono ?_)
  rintro e w1 ⟨rfl, t1, m1⟩
  have p2 := t1.cell p2 HL1.out
  have h2 := HH2.out.turned t1 (fun k h2 h1 => HD.out k h1 h2)
  have tX := tX.trans (t1.mono (fun k h => .inl h))
  have hcon2 := HC.out w1 h2
  have HM1 : Hid (MarkE S1 w1 a es 1) := m1
  clear p1 hcon t1 m1 h2 HC HH2 hX
  go_wp2_with (go_at_call 28; refine hcon2.mono ?_)
  rintro e w2 ⟨rfl, t2, m2⟩
  have m1 := HM1.out.turned t2 HD.out
  have tX := tX.trans (t2.mono (fun k h => .inr h))
  have HF : Hid (TurnS (fun k => S1 k ∨ S2 k) w w2 ∧ MarkE S1 w2 a es 1 ∧ MarkQ S2 w2 b ps r1) := ⟨tX, m1, m2⟩
  clear t2 m1 m2 hcon2 p2 tX
  go_wp2_with fail
  go_ret
  exact ⟨rfl, HF.out⟩

set_option maxHeartbeats 1000000 in
theorem heldEditsResult_any (q : Int) (S1 S2 : Nat → Prop) (a b : Option Addr) (n m c d : Nat) (es : List (Int × List Int)) (ps : List (List Int)) (w : World) (hn : es.length = n) (hp : ps.length = m) (hm : bigE es ≤ 2000000) (hm' : bigQ ps ≤ 13000000) (h1 : MarkE S1 w a es 1) (h2 : MarkQ S2 w b ps (endE es 1)) :
    Calls Try.prog 39 #[.agg #[.int .i64 q, .slice a n c, .slice b m d], .int .i64 1] w fun e w' => e = .returned (.int .i64 (endQ ps (endE es 1))) ∧ Below w.heap.size w w' := by
  obtain ⟨X, hX⟩ : ∃ X, w.alloc (.cells #[.int .i64 q, .slice a n c, .slice b m d] 62) = X := ⟨_, rfl⟩
  have gX : Below w.heap.size w X := by rw [← hX]; go_grown
  have p1 : X.cell? ⟨w.heap.size, 1, none⟩ = some (.slice a n c) := by rw [← hX]; simp [go_sem]
  have p2 : X.cell? ⟨w.heap.size, 2, none⟩ = some (.slice b m d) := by rw [← hX]; simp [go_sem]
  have hcon := heldEditS_has S1 a n c es 1 X hn (by omega) (by omega) (by omega) (h1.below gX)
  obtain ⟨hk0, hk1⟩ := endE_le es (k := 1) hm (by omega) (by omega)
  have hcon2 := heldByteSS_has S2 b m d ps (endE es 1) X hp hm' hk0 hk1 (h2.below gX)
  have hk2 := endQ_pos ps hk0
  generalize endQ ps (endE es 1) = r2 at hcon2 hk2
  generalize endE es 1 = r1 at hcon hcon2 hk0
  have n1 : ¬ (r1 < 0) := by omega
  have n2 : ¬ (r2 < 0) := by omega
  clear h1 h2 hm hm' hn hp hk1
  go_enter Try.func39, Try.ntmps39
  go_upto_region 2 with (go_at_call 87; refine hcon.mono ?_; rintro e w1 ⟨rfl, hw1⟩; subst w1)
  go_wp2_with (go_at_call 88; refine hcon2.mono ?_; rintro e w1 ⟨rfl, hw1⟩; subst w1)
  go_ret
  exact ⟨rfl, gX⟩

end Go.Proofs.Yteebbaleejbodaa
