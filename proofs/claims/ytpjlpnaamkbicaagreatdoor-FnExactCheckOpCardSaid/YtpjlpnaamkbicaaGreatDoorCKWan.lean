/-
  What an op with a row wants; the model's l10Bad and l10Wanted.
-/
import Derived.Test.YtpjlpnaamkbicaaGreatDoorCKMbs
import Derived.Test.YtpjlpnaamkbicaaGreatDoorCKHld
import Derived.Test.YtpjlpnaamkbicaaGreatDoorCKOpi
import Derived.BigQuiet

namespace Go.Proofs.YtpjlpnaamkbicaaGreatDoor
open Go.RowKit Go.Maps
set_option linter.unusedVariables false
set_option maxRecDepth 20000

def zR : Rw := ⟨0, 0, 0, ⟨#[]⟩⟩
def zC : Chg := ⟨false, zR, false, zR⟩
def chVal (c : Chg) : Value := .agg #[.bool c.was, .int .i64 c.b.t, .int .i64 c.b.k, .int .i64 c.b.v, .string c.b.s, .bool c.is, .int .i64 c.a.t, .int .i64 c.a.k, .int .i64 c.a.v, .string c.a.s]
def crVal (q : Int) (tn : Bool) (c : Chg) : Value := .agg #[.int .i64 q, .bool tn, .bool c.was, .int .i64 c.b.t, .int .i64 c.b.k, .int .i64 c.b.v, .string c.b.s, .bool c.is, .int .i64 c.a.t, .int .i64 c.a.k, .int .i64 c.a.v, .string c.a.s]
/-- The code and the change that an op with a row wants. -/
def wcQ (rs : List Rw) (kd t k : Int) : Int := if kd = 2 ∧ (fR rs t k).isSome = true then 6 else if kd ≠ 2 ∧ (fR rs t k).isSome = false then 4 else 0
def wcC (rs : List Rw) (kd t k v : Int) (s : ByteArray) : Chg := if wcQ rs kd t k = 0 then ⟨(fR rs t k).isSome, (fR rs t k).getD zR, decide (kd ≠ 4), if kd = 4 then zR else ⟨t, k, v, s⟩⟩ else zC
def wcV (rs : List Rw) (kd t k v : Int) (s : ByteArray) : Value := .tuple #[chVal (wcC rs kd t k v s), .int .i64 (wcQ rs kd t k)]
theorem atP_uniq {rs : List Rw} (hu : Uniq rs) {t k r r' : Int} (h : AtP rs t k r) (h' : AtP rs t k r') : r = r' := by
  rcases h with ⟨rfl, h⟩ | ⟨i, x, rfl, hx, e1, e2⟩
  · rcases h' with ⟨rfl, _⟩ | ⟨i, x, rfl, hx, e1, e2⟩
    · rfl
    · exact absurd ⟨e1, e2⟩ (h x (List.mem_of_getElem? hx))
  · rcases h' with ⟨rfl, h'⟩ | ⟨j, y, rfl, hy, f1, f2⟩
    · exact absurd ⟨e1, e2⟩ (h' x (List.mem_of_getElem? hx))
    · rw [uniq_eq hu hx hy ⟨e1.trans f1.symm, e2.trans f2.symm⟩]

set_option maxHeartbeats 1000000 in
theorem l10Bad_any (q : Int) (w : World) : Calls Tryz.prog 18 #[.int .i64 q] w fun e w' => e = .returned (crVal q false zC) ∧ Below w.heap.size w w' := by
  have HV : Hid (crVal q false zC = .agg #[.int .i64 q, .bool false, .bool false, .int .i64 0, .int .i64 0, .int .i64 0, .string ⟨#[]⟩, .bool false, .int .i64 0, .int .i64 0, .int .i64 0, .string ⟨#[]⟩]) := rfl
  rw [HV.out]
  go_enter Tryz.func18, Tryz.ntmps18
  go_wp2_with fail
  refine bodyPost_ret (v := .agg #[.int .i64 q, .bool false, .bool false, .int .i64 0, .int .i64 0, .int .i64 0, .string ⟨#[]⟩, .bool false, .int .i64 0, .int .i64 0, .int .i64 0, .string ⟨#[]⟩]) (by simp [results, Tryz.results18, go_sem, *]) rfl ?_
  exact ⟨rfl, by go_grown⟩

/-- Ten cells of a change, new. -/
structure C10f (w : World) (b : Nat) (p q : Bool) : Prop where
  c0 : w.cell? ⟨b, 0, none⟩ = some (.bool p)
  c1 : w.cell? ⟨b, 1, none⟩ = some (.int .i64 0)
  c2 : w.cell? ⟨b, 2, none⟩ = some (.int .i64 0)
  c3 : w.cell? ⟨b, 3, none⟩ = some (.int .i64 0)
  c4 : w.cell? ⟨b, 4, none⟩ = some (.string ⟨#[]⟩)
  c5 : w.cell? ⟨b, 5, none⟩ = some (.bool q)
  c6 : w.cell? ⟨b, 6, none⟩ = some (.int .i64 0)
  c7 : w.cell? ⟨b, 7, none⟩ = some (.int .i64 0)
  c8 : w.cell? ⟨b, 8, none⟩ = some (.int .i64 0)
  c9 : w.cell? ⟨b, 9, none⟩ = some (.string ⟨#[]⟩)
  f0 : w.frozen? ⟨b, 0, none⟩ = false
  f1 : w.frozen? ⟨b, 1, none⟩ = false
  f2 : w.frozen? ⟨b, 2, none⟩ = false
  f3 : w.frozen? ⟨b, 3, none⟩ = false
  f4 : w.frozen? ⟨b, 4, none⟩ = false
  f5 : w.frozen? ⟨b, 5, none⟩ = false
  f6 : w.frozen? ⟨b, 6, none⟩ = false
  f7 : w.frozen? ⟨b, 7, none⟩ = false
  f8 : w.frozen? ⟨b, 8, none⟩ = false
  f9 : w.frozen? ⟨b, 9, none⟩ = false
theorem C10f.lt {w : World} {b : Nat} {p q : Bool} (h : C10f w b p q) : b < w.heap.size := World.block_lt_of_cell? w _ h.c0
theorem C10f.below {w w' : World} {b : Nat} {p q : Bool} (h : C10f w b p q) (hb : Below w.heap.size w w') : C10f w' b p q :=
  ⟨(hb.cell (p := ⟨b, 0, none⟩) h.lt).trans h.c0, (hb.cell (p := ⟨b, 1, none⟩) h.lt).trans h.c1, (hb.cell (p := ⟨b, 2, none⟩) h.lt).trans h.c2, (hb.cell (p := ⟨b, 3, none⟩) h.lt).trans h.c3, (hb.cell (p := ⟨b, 4, none⟩) h.lt).trans h.c4, (hb.cell (p := ⟨b, 5, none⟩) h.lt).trans h.c5, (hb.cell (p := ⟨b, 6, none⟩) h.lt).trans h.c6, (hb.cell (p := ⟨b, 7, none⟩) h.lt).trans h.c7, (hb.cell (p := ⟨b, 8, none⟩) h.lt).trans h.c8, (hb.cell (p := ⟨b, 9, none⟩) h.lt).trans h.c9, (hb.frozen (p := ⟨b, 0, none⟩) h.lt).trans h.f0, (hb.frozen (p := ⟨b, 1, none⟩) h.lt).trans h.f1, (hb.frozen (p := ⟨b, 2, none⟩) h.lt).trans h.f2, (hb.frozen (p := ⟨b, 3, none⟩) h.lt).trans h.f3, (hb.frozen (p := ⟨b, 4, none⟩) h.lt).trans h.f4, (hb.frozen (p := ⟨b, 5, none⟩) h.lt).trans h.f5, (hb.frozen (p := ⟨b, 6, none⟩) h.lt).trans h.f6, (hb.frozen (p := ⟨b, 7, none⟩) h.lt).trans h.f7, (hb.frozen (p := ⟨b, 8, none⟩) h.lt).trans h.f8, (hb.frozen (p := ⟨b, 9, none⟩) h.lt).trans h.f9⟩

/-- Ten cells of a change of one's own. -/
structure C10v (w : World) (b : Nat) (x0 x1 x2 x3 x4 x5 x6 x7 x8 x9 : Value) : Prop where
  c0 : w.cell? ⟨b, 0, none⟩ = some x0
  c1 : w.cell? ⟨b, 1, none⟩ = some x1
  c2 : w.cell? ⟨b, 2, none⟩ = some x2
  c3 : w.cell? ⟨b, 3, none⟩ = some x3
  c4 : w.cell? ⟨b, 4, none⟩ = some x4
  c5 : w.cell? ⟨b, 5, none⟩ = some x5
  c6 : w.cell? ⟨b, 6, none⟩ = some x6
  c7 : w.cell? ⟨b, 7, none⟩ = some x7
  c8 : w.cell? ⟨b, 8, none⟩ = some x8
  c9 : w.cell? ⟨b, 9, none⟩ = some x9
  f0 : w.frozen? ⟨b, 0, none⟩ = false
  f1 : w.frozen? ⟨b, 1, none⟩ = false
  f2 : w.frozen? ⟨b, 2, none⟩ = false
  f3 : w.frozen? ⟨b, 3, none⟩ = false
  f4 : w.frozen? ⟨b, 4, none⟩ = false
  f5 : w.frozen? ⟨b, 5, none⟩ = false
  f6 : w.frozen? ⟨b, 6, none⟩ = false
  f7 : w.frozen? ⟨b, 7, none⟩ = false
  f8 : w.frozen? ⟨b, 8, none⟩ = false
  f9 : w.frozen? ⟨b, 9, none⟩ = false
def set4 (w : World) (b o : Nat) (x y z u : Value) : World := (((w.setCell ⟨b, o, none⟩ x).setCell ⟨b, o + 1, none⟩ y).setCell ⟨b, o + 2, none⟩ z).setCell ⟨b, o + 3, none⟩ u
theorem set4_off {w : World} {b o p : Nat} {x y z u : Value} (h : p < o ∨ o + 4 ≤ p) : (set4 w b o x y z u).cell? ⟨b, p, none⟩ = w.cell? ⟨b, p, none⟩ := by
  unfold set4
  rw [cell_off (by omega), cell_off (by omega), cell_off (by omega), cell_off (by omega)]
theorem set4_turned {w : World} {b o : Nat} {x y z u : Value} : Turned b (b + 1) w (set4 w b o x y z u) :=
  ((((Turned.refl _ _ w).setCell (p := ⟨b, o, none⟩) (Nat.le_refl _) (Nat.lt_succ_self _) _).setCell (p := ⟨b, o + 1, none⟩) (Nat.le_refl _) (Nat.lt_succ_self _) _).setCell (p := ⟨b, o + 2, none⟩) (Nat.le_refl _) (Nat.lt_succ_self _) _).setCell (p := ⟨b, o + 3, none⟩) (Nat.le_refl _) (Nat.lt_succ_self _) _
theorem set4_frozen {w : World} {b o : Nat} {x y z u : Value} (p : Addr) : (set4 w b o x y z u).frozen? p = w.frozen? p := by
  unfold set4
  rw [World.frozen?_setCell, World.frozen?_setCell, World.frozen?_setCell, World.frozen?_setCell]
theorem C10v.put1 {w : World} {b : Nat} {x0 x1 x2 x3 x4 x5 x6 x7 x8 x9 : Value} (h : C10v w b x0 x1 x2 x3 x4 x5 x6 x7 x8 x9) (x y z u : Value) : C10v (set4 w b 1 x y z u) b x0 x y z u x5 x6 x7 x8 x9 :=
  ⟨(set4_off (by omega)).trans h.c0, by simp [set4, go_sem, h.c1], by simp [set4, go_sem, h.c2], by simp [set4, go_sem, h.c3], by simp [set4, go_sem, h.c4], (set4_off (by omega)).trans h.c5, (set4_off (by omega)).trans h.c6, (set4_off (by omega)).trans h.c7, (set4_off (by omega)).trans h.c8, (set4_off (by omega)).trans h.c9, (set4_frozen _).trans h.f0, (set4_frozen _).trans h.f1, (set4_frozen _).trans h.f2, (set4_frozen _).trans h.f3, (set4_frozen _).trans h.f4, (set4_frozen _).trans h.f5, (set4_frozen _).trans h.f6, (set4_frozen _).trans h.f7, (set4_frozen _).trans h.f8, (set4_frozen _).trans h.f9⟩
theorem C10v.put6 {w : World} {b : Nat} {x0 x1 x2 x3 x4 x5 x6 x7 x8 x9 : Value} (h : C10v w b x0 x1 x2 x3 x4 x5 x6 x7 x8 x9) (x y z u : Value) : C10v (set4 w b 6 x y z u) b x0 x1 x2 x3 x4 x5 x y z u :=
  ⟨(set4_off (by omega)).trans h.c0, (set4_off (by omega)).trans h.c1, (set4_off (by omega)).trans h.c2, (set4_off (by omega)).trans h.c3, (set4_off (by omega)).trans h.c4, (set4_off (by omega)).trans h.c5, by simp [set4, go_sem, h.c6], by simp [set4, go_sem, h.c7], by simp [set4, go_sem, h.c8], by simp [set4, go_sem, h.c9], (set4_frozen _).trans h.f0, (set4_frozen _).trans h.f1, (set4_frozen _).trans h.f2, (set4_frozen _).trans h.f3, (set4_frozen _).trans h.f4, (set4_frozen _).trans h.f5, (set4_frozen _).trans h.f6, (set4_frozen _).trans h.f7, (set4_frozen _).trans h.f8, (set4_frozen _).trans h.f9⟩
theorem C10f.put {w : World} {b b' : Nat} {p q : Bool} (h : C10f w b p q) (hn : b ≠ b') (o : Nat) (x y z u : Value) : C10f (set4 w b' o x y z u) b p q := by
  have ht : Turned b' (b' + 1) w (set4 w b' o x y z u) := set4_turned
  have hd : b < b' ∨ b' + 1 ≤ b := by omega
  exact ⟨ht.cell h.c0 hd, ht.cell h.c1 hd, ht.cell h.c2 hd, ht.cell h.c3 hd, ht.cell h.c4 hd, ht.cell h.c5 hd, ht.cell h.c6 hd, ht.cell h.c7 hd, ht.cell h.c8 hd, ht.cell h.c9 hd, (set4_frozen _).trans h.f0, (set4_frozen _).trans h.f1, (set4_frozen _).trans h.f2, (set4_frozen _).trans h.f3, (set4_frozen _).trans h.f4, (set4_frozen _).trans h.f5, (set4_frozen _).trans h.f6, (set4_frozen _).trans h.f7, (set4_frozen _).trans h.f8, (set4_frozen _).trans h.f9⟩

set_option maxHeartbeats 8000000 in
theorem l10Wanted_any (a : Option Addr) (rs : List Rw) (n c b : Nat) (kd tx t k v : Int) (s : ByteArray) (mk : Int) (w : World) (hn : rs.length = n) (hm : n ≤ 100000) (hu : Uniq rs) (hr : Rs rwE 4 w a rs) (ho : OpAt w b kd tx t k v s mk) (hkd : kd = 2 ∨ kd = 3 ∨ kd = 4) :
    Calls Tryz.prog 80 #[.slice a n c, .pointer (some ⟨b, 0, none⟩)] w fun e w' => e = .returned (wcV rs kd t k v s) ∧ Below w.heap.size w w' := by
  have lo := ho.lt
  have HO : Hid (∀ V, Below w.heap.size w V → OpAt V b kd tx t k v s mk) := fun V hV => ho.below hV lo
  have HR : Hid (∀ V, Below w.heap.size w V → Rs rwE 4 V a rs) := fun V hV => hr.below hV (Nat.le_refl _)
  obtain ⟨r, hAr⟩ : ∃ r, AtP rs t k r := by
    by_cases h : ∃ (i : Nat) (x : Rw), rs[i]? = some x ∧ x.t = t ∧ x.k = k
    · obtain ⟨i, x, h1, h2, h3⟩ := h
      exact ⟨i, .inr ⟨i, x, rfl, h1, h2, h3⟩⟩
    · refine ⟨-1, .inl ⟨rfl, fun x hx e => ?_⟩⟩
      obtain ⟨i, hi, hx'⟩ := List.mem_iff_getElem.1 hx
      exact h ⟨i, x, by rw [List.getElem?_eq_getElem hi, hx'], e.1, e.2⟩
  have HA0 : Hid (∀ V, Below w.heap.size w V → Calls Tryz.prog 107 #[.slice a n c, .int .i64 t, .int .i64 k] V fun e w' => e = .returned (.int .i64 r) ∧ w' = V) := fun V hV => by
    refine (l6At_any a rs n c t k V hn hm (hr.below hV (Nat.le_refl _))).mono ?_
    rintro e w' ⟨r', h1, h2, h3⟩
    exact ⟨by rw [h1, atP_uniq hu h2 hAr], h3⟩
  have hsplit := AtP.f hu hAr
  clear hAr
  rcases hsplit with ⟨rfl, hf⟩ | ⟨i, x, rfl, hx, hf⟩
  · clear HR hr ho hu
    rcases hkd with hk | hk | hk
    · subst hk
      have HV : Hid (wcV rs 2 t k v s = .tuple #[.agg #[.bool false, .int .i64 0, .int .i64 0, .int .i64 0, .string ⟨#[]⟩, .bool true, .int .i64 t, .int .i64 k, .int .i64 v, .string s], .int .i64 0]) := by show _ = _; simp only [wcV, wcC, wcQ]; simp [hf, chVal, zR]
      rw [HV.out]
      go_enter Tryz.func80, Tryz.ntmps80
      go_upto_region 1 with (fail)
      generalize hY : World.alloc _ _ = Y
      have g : Below w.heap.size w Y := by rw [← hY]; go_grown
      have C : C10f Y w.heap.size false false := by rw [← hY]; exact ⟨by simp [go_sem], by simp [go_sem], by simp [go_sem], by simp [go_sem], by simp [go_sem], by simp [go_sem], by simp [go_sem], by simp [go_sem], by simp [go_sem], by simp [go_sem], by simp [go_sem], by simp [go_sem], by simp [go_sem], by simp [go_sem], by simp [go_sem], by simp [go_sem], by simp [go_sem], by simp [go_sem], by simp [go_sem], by simp [go_sem]⟩
      clear hY
      obtain ⟨ob, hob2⟩ : ∃ ob, w.heap.size = ob := ⟨_, rfl⟩
      rw [hob2] at C
      simp only [hob2]
      have hob : w.heap.size ≤ ob := by omega
      obtain ⟨q0, q1, q2, q3, q4, q5, q6⟩ := HO.out Y g
      have HAt := fun m => HA0.out (Y.drewN m) (g.trans ⟨rfl, rfl, rfl, Nat.le_refl _, fun _ _ => rfl⟩)
      clear hf hob2 HV
      go_quiet (first | (go_at_call 107; refine Calls.quiet_of_same (HAt _)))
      have gq0 : Below Y.heap.size Y (Y.drewN nq) := ⟨rfl, rfl, rfl, Nat.le_refl _, fun _ _ => rfl⟩
      have C := C.below gq0
      clear q0 q1 q2 q3 q4 q5 q6 HAt
      generalize Y.drewN nq = Yq at gq0 C ⊢
      have g := g.trans (gq0.mono g.size)
      obtain ⟨q0, q1, q2, q3, q4, q5, q6⟩ := HO.out Yq g
      clear gq0
      have hoc : ob < Yq.heap.size := C.lt
      go_upto_region 7 with (fail)
      generalize hZ : World.alloc _ _ = Z
      have gZ : Below Yq.heap.size Yq Z := by rw [← hZ]; go_grown
      have D : C10v Z Yq.heap.size (.bool false) (.int .i64 0) (.int .i64 0) (.int .i64 0) (.string ⟨#[]⟩) (.bool true) (.int .i64 0) (.int .i64 0) (.int .i64 0) (.string ⟨#[]⟩) := by rw [← hZ]; exact ⟨by simp [go_sem], by simp [go_sem], by simp [go_sem], by simp [go_sem], by simp [go_sem], by simp [go_sem], by simp [go_sem], by simp [go_sem], by simp [go_sem], by simp [go_sem], by simp [go_sem], by simp [go_sem], by simp [go_sem], by simp [go_sem], by simp [go_sem], by simp [go_sem], by simp [go_sem], by simp [go_sem], by simp [go_sem], by simp [go_sem]⟩
      have C := C.below gZ
      have g := g.trans (gZ.mono g.size)
      clear hZ gZ q0 q1 q2 q3 q4 q5 q6 
      generalize Yq.heap.size = cb at D hoc ⊢
      have hne : ob ≠ cb := by omega
      have hwc : w.heap.size ≤ cb := by omega
      have HD : Hid (C10v Z cb (.bool false) (.int .i64 0) (.int .i64 0) (.int .i64 0) (.string ⟨#[]⟩) (.bool true) (.int .i64 0) (.int .i64 0) (.int .i64 0) (.string ⟨#[]⟩)) := D
      have HC : Hid (C10f Z ob false false) := C
      clear C D
      have hz2 : ∃ Z2, Z2 = Z := ⟨_, rfl⟩
      obtain ⟨Z2, hZ2⟩ := hz2
      subst hZ2
      obtain ⟨q0, q1, q2, q3, q4, q5, q6⟩ := HO.out Z2 g
      have y5 := HD.out.c5
      have y6 := HD.out.c6
      have y7 := HD.out.c7
      have y8 := HD.out.c8
      have y9 := HD.out.c9
      have e6 := HD.out.f6
      have e7 := HD.out.f7
      have e8 := HD.out.f8
      have e9 := HD.out.f9
      go_upto_region 11 with (fail)
      have HD2 : Hid (C10v (set4 Z2 cb 6 (.int .i64 t) (.int .i64 k) (.int .i64 v) (.string s)) cb (.bool false) (.int .i64 0) (.int .i64 0) (.int .i64 0) (.string ⟨#[]⟩) (.bool true) (.int .i64 t) (.int .i64 k) (.int .i64 v) (.string s)) := HD.out.put6 _ _ _ _
      have HC2 : Hid (C10f (set4 Z2 cb 6 (.int .i64 t) (.int .i64 k) (.int .i64 v) (.string s)) ob false false) := HC.out.put hne _ _ _ _ _
      have g2 : Below w.heap.size w (set4 Z2 cb 6 (.int .i64 t) (.int .i64 k) (.int .i64 v) (.string s)) := g.trans (set4_turned.toBelow g.size hwc)
      clear q0 q1 q2 q3 q4 q5 q6 y5 y6 y7 y8 y9 e6 e7 e8 e9 HD HC g
      have HD := HD2
      have HC := HC2
      have g := g2
      clear HD2 HC2 g2
      change Code.wp _ _ _ _ (set4 Z2 cb 6 (.int .i64 t) (.int .i64 k) (.int .i64 v) (.string s))
      generalize set4 Z2 cb 6 (.int .i64 t) (.int .i64 k) (.int .i64 v) (.string s) = Z3 at HD HC g ⊢
      obtain ⟨z0, z1, z2, z3, z4, z5, z6, z7, z8, z9, f0, f1, f2, f3, f4, f5, f6, f7, f8, f9⟩ := HC.out
      obtain ⟨y0, y1, y2, y3, y4, y5, y6, y7, y8, y9, -, -, -, -, -, -, -, -, -, -⟩ := HD.out
      clear HD HC
      go_wp2_with fail
      refine bodyPost_ret (v := .tuple #[.agg #[.bool false, .int .i64 0, .int .i64 0, .int .i64 0, .string ⟨#[]⟩, .bool true, .int .i64 t, .int .i64 k, .int .i64 v, .string s], .int .i64 0]) (by simp [results, Tryz.results80, go_sem, *]) rfl ?_
      exact ⟨rfl, by go_grown⟩
    · subst hk
      have HV : Hid (wcV rs 3 t k v s = .tuple #[.agg #[.bool false, .int .i64 0, .int .i64 0, .int .i64 0, .string ⟨#[]⟩, .bool false, .int .i64 0, .int .i64 0, .int .i64 0, .string ⟨#[]⟩], .int .i64 4]) := by show _ = _; simp only [wcV, wcC, wcQ]; simp [hf, chVal, zR, zC]
      rw [HV.out]
      go_enter Tryz.func80, Tryz.ntmps80
      go_upto_region 1 with (fail)
      generalize hY : World.alloc _ _ = Y
      have g : Below w.heap.size w Y := by rw [← hY]; go_grown
      have C : C10f Y w.heap.size false false := by rw [← hY]; exact ⟨by simp [go_sem], by simp [go_sem], by simp [go_sem], by simp [go_sem], by simp [go_sem], by simp [go_sem], by simp [go_sem], by simp [go_sem], by simp [go_sem], by simp [go_sem], by simp [go_sem], by simp [go_sem], by simp [go_sem], by simp [go_sem], by simp [go_sem], by simp [go_sem], by simp [go_sem], by simp [go_sem], by simp [go_sem], by simp [go_sem]⟩
      clear hY
      obtain ⟨ob, hob2⟩ : ∃ ob, w.heap.size = ob := ⟨_, rfl⟩
      rw [hob2] at C
      simp only [hob2]
      have hob : w.heap.size ≤ ob := by omega
      obtain ⟨q0, q1, q2, q3, q4, q5, q6⟩ := HO.out Y g
      have HAt := fun m => HA0.out (Y.drewN m) (g.trans ⟨rfl, rfl, rfl, Nat.le_refl _, fun _ _ => rfl⟩)
      clear hf hob2 HV
      go_quiet (first | (go_at_call 107; refine Calls.quiet_of_same (HAt _)))
      have gq0 : Below Y.heap.size Y (Y.drewN nq) := ⟨rfl, rfl, rfl, Nat.le_refl _, fun _ _ => rfl⟩
      have C := C.below gq0
      clear q0 q1 q2 q3 q4 q5 q6 HAt
      generalize Y.drewN nq = Yq at gq0 C ⊢
      have g := g.trans (gq0.mono g.size)
      obtain ⟨q0, q1, q2, q3, q4, q5, q6⟩ := HO.out Yq g
      obtain ⟨z0, z1, z2, z3, z4, z5, z6, z7, z8, z9, f0, f1, f2, f3, f4, f5, f6, f7, f8, f9⟩ := C
      clear gq0
      go_wp2_with fail
      refine bodyPost_ret (v := .tuple #[.agg #[.bool false, .int .i64 0, .int .i64 0, .int .i64 0, .string ⟨#[]⟩, .bool false, .int .i64 0, .int .i64 0, .int .i64 0, .string ⟨#[]⟩], .int .i64 4]) (by simp [results, Tryz.results80, go_sem, *]) rfl ?_
      exact ⟨rfl, by go_grown⟩
    · subst hk
      have HV : Hid (wcV rs 4 t k v s = .tuple #[.agg #[.bool false, .int .i64 0, .int .i64 0, .int .i64 0, .string ⟨#[]⟩, .bool false, .int .i64 0, .int .i64 0, .int .i64 0, .string ⟨#[]⟩], .int .i64 4]) := by show _ = _; simp only [wcV, wcC, wcQ]; simp [hf, chVal, zR, zC]
      rw [HV.out]
      go_enter Tryz.func80, Tryz.ntmps80
      go_upto_region 1 with (fail)
      generalize hY : World.alloc _ _ = Y
      have g : Below w.heap.size w Y := by rw [← hY]; go_grown
      have C : C10f Y w.heap.size false false := by rw [← hY]; exact ⟨by simp [go_sem], by simp [go_sem], by simp [go_sem], by simp [go_sem], by simp [go_sem], by simp [go_sem], by simp [go_sem], by simp [go_sem], by simp [go_sem], by simp [go_sem], by simp [go_sem], by simp [go_sem], by simp [go_sem], by simp [go_sem], by simp [go_sem], by simp [go_sem], by simp [go_sem], by simp [go_sem], by simp [go_sem], by simp [go_sem]⟩
      clear hY
      obtain ⟨ob, hob2⟩ : ∃ ob, w.heap.size = ob := ⟨_, rfl⟩
      rw [hob2] at C
      simp only [hob2]
      have hob : w.heap.size ≤ ob := by omega
      obtain ⟨q0, q1, q2, q3, q4, q5, q6⟩ := HO.out Y g
      have HAt := fun m => HA0.out (Y.drewN m) (g.trans ⟨rfl, rfl, rfl, Nat.le_refl _, fun _ _ => rfl⟩)
      clear hf hob2 HV
      go_quiet (first | (go_at_call 107; refine Calls.quiet_of_same (HAt _)))
      have gq0 : Below Y.heap.size Y (Y.drewN nq) := ⟨rfl, rfl, rfl, Nat.le_refl _, fun _ _ => rfl⟩
      have C := C.below gq0
      clear q0 q1 q2 q3 q4 q5 q6 HAt
      generalize Y.drewN nq = Yq at gq0 C ⊢
      have g := g.trans (gq0.mono g.size)
      obtain ⟨q0, q1, q2, q3, q4, q5, q6⟩ := HO.out Yq g
      obtain ⟨z0, z1, z2, z3, z4, z5, z6, z7, z8, z9, f0, f1, f2, f3, f4, f5, f6, f7, f8, f9⟩ := C
      clear gq0
      go_wp2_with fail
      refine bodyPost_ret (v := .tuple #[.agg #[.bool false, .int .i64 0, .int .i64 0, .int .i64 0, .string ⟨#[]⟩, .bool false, .int .i64 0, .int .i64 0, .int .i64 0, .string ⟨#[]⟩], .int .i64 4]) (by simp [results, Tryz.results80, go_sem, *]) rfl ?_
      exact ⟨rfl, by go_grown⟩
  · obtain ⟨b', off, e0, X⟩ := hr.row hx
    obtain rfl := e0
    have lX := X.lt
    obtain ⟨bt, bk, bv, bs⟩ := x
    have HRw : Hid (∀ V, Below w.heap.size w V → RowC V b' (off + i * 4) ⟨bt, bk, bv, bs⟩) := fun V hV => X.below hV lX
    have hin : (i : Int) < (n : Int) := by have := (List.getElem?_eq_some_iff.1 hx).1; omega
    have hrw : (fR rs t k).getD zR = ⟨bt, bk, bv, bs⟩ := by rw [hf]; rfl
    clear HR hr ho hu hx X
    rcases hkd with hk | hk | hk
    · subst hk
      have HV : Hid (wcV rs 2 t k v s = .tuple #[.agg #[.bool false, .int .i64 0, .int .i64 0, .int .i64 0, .string ⟨#[]⟩, .bool false, .int .i64 0, .int .i64 0, .int .i64 0, .string ⟨#[]⟩], .int .i64 6]) := by show _ = _; simp only [wcV, wcC, wcQ]; simp [hf, chVal, zR, zC]
      rw [HV.out]
      go_enter Tryz.func80, Tryz.ntmps80
      go_upto_region 1 with (fail)
      generalize hY : World.alloc _ _ = Y
      have g : Below w.heap.size w Y := by rw [← hY]; go_grown
      have C : C10f Y w.heap.size false false := by rw [← hY]; exact ⟨by simp [go_sem], by simp [go_sem], by simp [go_sem], by simp [go_sem], by simp [go_sem], by simp [go_sem], by simp [go_sem], by simp [go_sem], by simp [go_sem], by simp [go_sem], by simp [go_sem], by simp [go_sem], by simp [go_sem], by simp [go_sem], by simp [go_sem], by simp [go_sem], by simp [go_sem], by simp [go_sem], by simp [go_sem], by simp [go_sem]⟩
      clear hY
      obtain ⟨ob, hob2⟩ : ∃ ob, w.heap.size = ob := ⟨_, rfl⟩
      rw [hob2] at C
      simp only [hob2]
      have hob : w.heap.size ≤ ob := by omega
      obtain ⟨q0, q1, q2, q3, q4, q5, q6⟩ := HO.out Y g
      have HAt := fun m => HA0.out (Y.drewN m) (g.trans ⟨rfl, rfl, rfl, Nat.le_refl _, fun _ _ => rfl⟩)
      clear hf hob2 HV
      go_quiet (first | (go_at_call 107; refine Calls.quiet_of_same (HAt _)))
      have gq0 : Below Y.heap.size Y (Y.drewN nq) := ⟨rfl, rfl, rfl, Nat.le_refl _, fun _ _ => rfl⟩
      have C := C.below gq0
      clear q0 q1 q2 q3 q4 q5 q6 HAt
      generalize Y.drewN nq = Yq at gq0 C ⊢
      have g := g.trans (gq0.mono g.size)
      obtain ⟨q0, q1, q2, q3, q4, q5, q6⟩ := HO.out Yq g
      obtain ⟨r0, r1, r2, r3⟩ := HRw.out Yq g
      dsimp only at r0 r1 r2 r3
      obtain ⟨z0, z1, z2, z3, z4, z5, z6, z7, z8, z9, f0, f1, f2, f3, f4, f5, f6, f7, f8, f9⟩ := C
      clear gq0
      go_wp2_with fail
      refine bodyPost_ret (v := .tuple #[.agg #[.bool false, .int .i64 0, .int .i64 0, .int .i64 0, .string ⟨#[]⟩, .bool false, .int .i64 0, .int .i64 0, .int .i64 0, .string ⟨#[]⟩], .int .i64 6]) (by simp [results, Tryz.results80, go_sem, *]) rfl ?_
      exact ⟨rfl, by go_grown⟩
    · subst hk
      have HV : Hid (wcV rs 3 t k v s = .tuple #[.agg #[.bool true, .int .i64 bt, .int .i64 bk, .int .i64 bv, .string bs, .bool true, .int .i64 t, .int .i64 k, .int .i64 v, .string s], .int .i64 0]) := by show _ = _; simp only [wcV, wcC, wcQ]; simp [hf, chVal, zR]
      rw [HV.out]
      go_enter Tryz.func80, Tryz.ntmps80
      go_upto_region 1 with (fail)
      generalize hY : World.alloc _ _ = Y
      have g : Below w.heap.size w Y := by rw [← hY]; go_grown
      have C : C10f Y w.heap.size false false := by rw [← hY]; exact ⟨by simp [go_sem], by simp [go_sem], by simp [go_sem], by simp [go_sem], by simp [go_sem], by simp [go_sem], by simp [go_sem], by simp [go_sem], by simp [go_sem], by simp [go_sem], by simp [go_sem], by simp [go_sem], by simp [go_sem], by simp [go_sem], by simp [go_sem], by simp [go_sem], by simp [go_sem], by simp [go_sem], by simp [go_sem], by simp [go_sem]⟩
      clear hY
      obtain ⟨ob, hob2⟩ : ∃ ob, w.heap.size = ob := ⟨_, rfl⟩
      rw [hob2] at C
      simp only [hob2]
      have hob : w.heap.size ≤ ob := by omega
      obtain ⟨q0, q1, q2, q3, q4, q5, q6⟩ := HO.out Y g
      have HAt := fun m => HA0.out (Y.drewN m) (g.trans ⟨rfl, rfl, rfl, Nat.le_refl _, fun _ _ => rfl⟩)
      clear hf hob2 HV
      go_quiet (first | (go_at_call 107; refine Calls.quiet_of_same (HAt _)))
      have gq0 : Below Y.heap.size Y (Y.drewN nq) := ⟨rfl, rfl, rfl, Nat.le_refl _, fun _ _ => rfl⟩
      have C := C.below gq0
      clear q0 q1 q2 q3 q4 q5 q6 HAt
      generalize Y.drewN nq = Yq at gq0 C ⊢
      have g := g.trans (gq0.mono g.size)
      obtain ⟨q0, q1, q2, q3, q4, q5, q6⟩ := HO.out Yq g
      obtain ⟨r0, r1, r2, r3⟩ := HRw.out Yq g
      dsimp only at r0 r1 r2 r3
      clear gq0
      have hoc : ob < Yq.heap.size := C.lt
      go_upto_region 7 with (fail)
      generalize hZ : World.alloc _ _ = Z
      have gZ : Below Yq.heap.size Yq Z := by rw [← hZ]; go_grown
      have D : C10v Z Yq.heap.size (.bool true) (.int .i64 0) (.int .i64 0) (.int .i64 0) (.string ⟨#[]⟩) (.bool true) (.int .i64 0) (.int .i64 0) (.int .i64 0) (.string ⟨#[]⟩) := by rw [← hZ]; exact ⟨by simp [go_sem], by simp [go_sem], by simp [go_sem], by simp [go_sem], by simp [go_sem], by simp [go_sem], by simp [go_sem], by simp [go_sem], by simp [go_sem], by simp [go_sem], by simp [go_sem], by simp [go_sem], by simp [go_sem], by simp [go_sem], by simp [go_sem], by simp [go_sem], by simp [go_sem], by simp [go_sem], by simp [go_sem], by simp [go_sem]⟩
      have C := C.below gZ
      have g := g.trans (gZ.mono g.size)
      clear hZ gZ q0 q1 q2 q3 q4 q5 q6 r0 r1 r2 r3
      generalize Yq.heap.size = cb at D hoc ⊢
      have hne : ob ≠ cb := by omega
      have hwc : w.heap.size ≤ cb := by omega
      have HD : Hid (C10v Z cb (.bool true) (.int .i64 0) (.int .i64 0) (.int .i64 0) (.string ⟨#[]⟩) (.bool true) (.int .i64 0) (.int .i64 0) (.int .i64 0) (.string ⟨#[]⟩)) := D
      have HC : Hid (C10f Z ob false false) := C
      clear C D
      obtain ⟨r0, r1, r2, r3⟩ := HRw.out Z g
      dsimp only at r0 r1 r2 r3
      have y1 := HD.out.c1
      have y2 := HD.out.c2
      have y3 := HD.out.c3
      have y4 := HD.out.c4
      have e1 := HD.out.f1
      have e2 := HD.out.f2
      have e3 := HD.out.f3
      have e4 := HD.out.f4
      go_upto_region 9 with (fail)
      have HD2 : Hid (C10v (set4 Z cb 1 (.int .i64 bt) (.int .i64 bk) (.int .i64 bv) (.string bs)) cb (.bool true) (.int .i64 bt) (.int .i64 bk) (.int .i64 bv) (.string bs) (.bool true) (.int .i64 0) (.int .i64 0) (.int .i64 0) (.string ⟨#[]⟩)) := HD.out.put1 _ _ _ _
      have HC2 : Hid (C10f (set4 Z cb 1 (.int .i64 bt) (.int .i64 bk) (.int .i64 bv) (.string bs)) ob false false) := HC.out.put hne _ _ _ _ _
      have g2 : Below w.heap.size w (set4 Z cb 1 (.int .i64 bt) (.int .i64 bk) (.int .i64 bv) (.string bs)) := g.trans (set4_turned.toBelow g.size hwc)
      clear r0 r1 r2 r3 y1 y2 y3 y4 e1 e2 e3 e4 HD HC g
      have HD := HD2
      have HC := HC2
      have g := g2
      clear HD2 HC2 g2
      change Code.wp _ _ _ _ (set4 Z cb 1 (.int .i64 bt) (.int .i64 bk) (.int .i64 bv) (.string bs))
      generalize set4 Z cb 1 (.int .i64 bt) (.int .i64 bk) (.int .i64 bv) (.string bs) = Z2 at HD HC g ⊢
      obtain ⟨q0, q1, q2, q3, q4, q5, q6⟩ := HO.out Z2 g
      have y5 := HD.out.c5
      have y6 := HD.out.c6
      have y7 := HD.out.c7
      have y8 := HD.out.c8
      have y9 := HD.out.c9
      have e6 := HD.out.f6
      have e7 := HD.out.f7
      have e8 := HD.out.f8
      have e9 := HD.out.f9
      go_upto_region 11 with (fail)
      have HD2 : Hid (C10v (set4 Z2 cb 6 (.int .i64 t) (.int .i64 k) (.int .i64 v) (.string s)) cb (.bool true) (.int .i64 bt) (.int .i64 bk) (.int .i64 bv) (.string bs) (.bool true) (.int .i64 t) (.int .i64 k) (.int .i64 v) (.string s)) := HD.out.put6 _ _ _ _
      have HC2 : Hid (C10f (set4 Z2 cb 6 (.int .i64 t) (.int .i64 k) (.int .i64 v) (.string s)) ob false false) := HC.out.put hne _ _ _ _ _
      have g2 : Below w.heap.size w (set4 Z2 cb 6 (.int .i64 t) (.int .i64 k) (.int .i64 v) (.string s)) := g.trans (set4_turned.toBelow g.size hwc)
      clear q0 q1 q2 q3 q4 q5 q6 y5 y6 y7 y8 y9 e6 e7 e8 e9 HD HC g
      have HD := HD2
      have HC := HC2
      have g := g2
      clear HD2 HC2 g2
      change Code.wp _ _ _ _ (set4 Z2 cb 6 (.int .i64 t) (.int .i64 k) (.int .i64 v) (.string s))
      generalize set4 Z2 cb 6 (.int .i64 t) (.int .i64 k) (.int .i64 v) (.string s) = Z3 at HD HC g ⊢
      obtain ⟨z0, z1, z2, z3, z4, z5, z6, z7, z8, z9, f0, f1, f2, f3, f4, f5, f6, f7, f8, f9⟩ := HC.out
      obtain ⟨y0, y1, y2, y3, y4, y5, y6, y7, y8, y9, -, -, -, -, -, -, -, -, -, -⟩ := HD.out
      clear HD HC
      go_wp2_with fail
      refine bodyPost_ret (v := .tuple #[.agg #[.bool true, .int .i64 bt, .int .i64 bk, .int .i64 bv, .string bs, .bool true, .int .i64 t, .int .i64 k, .int .i64 v, .string s], .int .i64 0]) (by simp [results, Tryz.results80, go_sem, *]) rfl ?_
      exact ⟨rfl, by go_grown⟩
    · subst hk
      have HV : Hid (wcV rs 4 t k v s = .tuple #[.agg #[.bool true, .int .i64 bt, .int .i64 bk, .int .i64 bv, .string bs, .bool false, .int .i64 0, .int .i64 0, .int .i64 0, .string ⟨#[]⟩], .int .i64 0]) := by show _ = _; simp only [wcV, wcC, wcQ]; simp [hf, chVal, zR]
      rw [HV.out]
      go_enter Tryz.func80, Tryz.ntmps80
      go_upto_region 1 with (fail)
      generalize hY : World.alloc _ _ = Y
      have g : Below w.heap.size w Y := by rw [← hY]; go_grown
      have C : C10f Y w.heap.size false false := by rw [← hY]; exact ⟨by simp [go_sem], by simp [go_sem], by simp [go_sem], by simp [go_sem], by simp [go_sem], by simp [go_sem], by simp [go_sem], by simp [go_sem], by simp [go_sem], by simp [go_sem], by simp [go_sem], by simp [go_sem], by simp [go_sem], by simp [go_sem], by simp [go_sem], by simp [go_sem], by simp [go_sem], by simp [go_sem], by simp [go_sem], by simp [go_sem]⟩
      clear hY
      obtain ⟨ob, hob2⟩ : ∃ ob, w.heap.size = ob := ⟨_, rfl⟩
      rw [hob2] at C
      simp only [hob2]
      have hob : w.heap.size ≤ ob := by omega
      obtain ⟨q0, q1, q2, q3, q4, q5, q6⟩ := HO.out Y g
      have HAt := fun m => HA0.out (Y.drewN m) (g.trans ⟨rfl, rfl, rfl, Nat.le_refl _, fun _ _ => rfl⟩)
      clear hf hob2 HV
      go_quiet (first | (go_at_call 107; refine Calls.quiet_of_same (HAt _)))
      have gq0 : Below Y.heap.size Y (Y.drewN nq) := ⟨rfl, rfl, rfl, Nat.le_refl _, fun _ _ => rfl⟩
      have C := C.below gq0
      clear q0 q1 q2 q3 q4 q5 q6 HAt
      generalize Y.drewN nq = Yq at gq0 C ⊢
      have g := g.trans (gq0.mono g.size)
      obtain ⟨q0, q1, q2, q3, q4, q5, q6⟩ := HO.out Yq g
      obtain ⟨r0, r1, r2, r3⟩ := HRw.out Yq g
      dsimp only at r0 r1 r2 r3
      clear gq0
      have hoc : ob < Yq.heap.size := C.lt
      go_upto_region 7 with (fail)
      generalize hZ : World.alloc _ _ = Z
      have gZ : Below Yq.heap.size Yq Z := by rw [← hZ]; go_grown
      have D : C10v Z Yq.heap.size (.bool true) (.int .i64 0) (.int .i64 0) (.int .i64 0) (.string ⟨#[]⟩) (.bool false) (.int .i64 0) (.int .i64 0) (.int .i64 0) (.string ⟨#[]⟩) := by rw [← hZ]; exact ⟨by simp [go_sem], by simp [go_sem], by simp [go_sem], by simp [go_sem], by simp [go_sem], by simp [go_sem], by simp [go_sem], by simp [go_sem], by simp [go_sem], by simp [go_sem], by simp [go_sem], by simp [go_sem], by simp [go_sem], by simp [go_sem], by simp [go_sem], by simp [go_sem], by simp [go_sem], by simp [go_sem], by simp [go_sem], by simp [go_sem]⟩
      have C := C.below gZ
      have g := g.trans (gZ.mono g.size)
      clear hZ gZ q0 q1 q2 q3 q4 q5 q6 r0 r1 r2 r3
      generalize Yq.heap.size = cb at D hoc ⊢
      have hne : ob ≠ cb := by omega
      have hwc : w.heap.size ≤ cb := by omega
      have HD : Hid (C10v Z cb (.bool true) (.int .i64 0) (.int .i64 0) (.int .i64 0) (.string ⟨#[]⟩) (.bool false) (.int .i64 0) (.int .i64 0) (.int .i64 0) (.string ⟨#[]⟩)) := D
      have HC : Hid (C10f Z ob false false) := C
      clear C D
      obtain ⟨r0, r1, r2, r3⟩ := HRw.out Z g
      dsimp only at r0 r1 r2 r3
      have y1 := HD.out.c1
      have y2 := HD.out.c2
      have y3 := HD.out.c3
      have y4 := HD.out.c4
      have e1 := HD.out.f1
      have e2 := HD.out.f2
      have e3 := HD.out.f3
      have e4 := HD.out.f4
      go_upto_region 9 with (fail)
      have HD2 : Hid (C10v (set4 Z cb 1 (.int .i64 bt) (.int .i64 bk) (.int .i64 bv) (.string bs)) cb (.bool true) (.int .i64 bt) (.int .i64 bk) (.int .i64 bv) (.string bs) (.bool false) (.int .i64 0) (.int .i64 0) (.int .i64 0) (.string ⟨#[]⟩)) := HD.out.put1 _ _ _ _
      have HC2 : Hid (C10f (set4 Z cb 1 (.int .i64 bt) (.int .i64 bk) (.int .i64 bv) (.string bs)) ob false false) := HC.out.put hne _ _ _ _ _
      have g2 : Below w.heap.size w (set4 Z cb 1 (.int .i64 bt) (.int .i64 bk) (.int .i64 bv) (.string bs)) := g.trans (set4_turned.toBelow g.size hwc)
      clear r0 r1 r2 r3 y1 y2 y3 y4 e1 e2 e3 e4 HD HC g
      have HD := HD2
      have HC := HC2
      have g := g2
      clear HD2 HC2 g2
      change Code.wp _ _ _ _ (set4 Z cb 1 (.int .i64 bt) (.int .i64 bk) (.int .i64 bv) (.string bs))
      generalize set4 Z cb 1 (.int .i64 bt) (.int .i64 bk) (.int .i64 bv) (.string bs) = Z2 at HD HC g ⊢
      have y5 := HD.out.c5
      go_upto_region 11 with (fail)
      clear y5
      have hz3 : ∃ Z3, Z3 = Z2 := ⟨_, rfl⟩
      obtain ⟨Z3, hZ3⟩ := hz3
      subst hZ3
      obtain ⟨z0, z1, z2, z3, z4, z5, z6, z7, z8, z9, f0, f1, f2, f3, f4, f5, f6, f7, f8, f9⟩ := HC.out
      obtain ⟨y0, y1, y2, y3, y4, y5, y6, y7, y8, y9, -, -, -, -, -, -, -, -, -, -⟩ := HD.out
      clear HD HC
      go_wp2_with fail
      refine bodyPost_ret (v := .tuple #[.agg #[.bool true, .int .i64 bt, .int .i64 bk, .int .i64 bv, .string bs, .bool false, .int .i64 0, .int .i64 0, .int .i64 0, .string ⟨#[]⟩], .int .i64 0]) (by simp [results, Tryz.results80, go_sem, *]) rfl ?_
      exact ⟨rfl, by go_grown⟩

end Go.Proofs.YtpjlpnaamkbicaaGreatDoor
