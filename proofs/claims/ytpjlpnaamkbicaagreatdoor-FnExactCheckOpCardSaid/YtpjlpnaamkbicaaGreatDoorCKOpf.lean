/-
  An op: what it holds; the model's OpFault.
-/
import Derived.Test.YtpjlpnaamkbicaaGreatDoorCKRwg
import Derived.BigQuiet

namespace Go.Proofs.YtpjlpnaamkbicaaGreatDoor
open Go.RowKit
set_option linter.unusedVariables false
set_option maxRecDepth 20000

/-- The seven cells of an op. -/
structure OpAt (w : World) (b : Nat) (kd tx t k v : Int) (s : ByteArray) (mk : Int) : Prop where
  c0 : w.cell? ⟨b, 0, none⟩ = some (.int .i64 kd)
  c1 : w.cell? ⟨b, 1, none⟩ = some (.int .i64 tx)
  c2 : w.cell? ⟨b, 2, none⟩ = some (.int .i64 t)
  c3 : w.cell? ⟨b, 3, none⟩ = some (.int .i64 k)
  c4 : w.cell? ⟨b, 4, none⟩ = some (.int .i64 v)
  c5 : w.cell? ⟨b, 5, none⟩ = some (.string s)
  c6 : w.cell? ⟨b, 6, none⟩ = some (.int .i64 mk)
/-- A row of nothing; the form of an op; its fault. -/
def noRw (t k v : Int) (s : ByteArray) : Bool := (t == 0) && (k == 0) && (v == 0) && decide (s.toList = [])
def opF (kd tx t k v : Int) (s : ByteArray) (mk : Int) : Bool :=
  inW kd 1 9 && ((kd == 6) || (mk == 0)) && (!((kd == 1) || (kd == 9)) || (tx == 0)) && (if kd = 4 then (v == 0) && decide (s.toList = []) else inW kd 2 4 || noRw t k v s)
def opQ (kd tx t k v : Int) (s : ByteArray) (mk : Int) : Int :=
  if opF kd tx t k v s mk = true then (if ((!((kd == 1) || (kd == 9)) && !inW tx 1 99) || !inW mk 0 7) = true then 3 else if inW kd 2 4 = true then faultI t k v s else 0) else 1
theorem inW_nine {kd : Int} (h : inW kd 1 9 = true) : kd = 1 ∨ kd = 2 ∨ kd = 3 ∨ kd = 4 ∨ kd = 5 ∨ kd = 6 ∨ kd = 7 ∨ kd = 8 ∨ kd = 9 := by
  unfold inW at h
  simp at h
  omega
theorem no_bytes {s : ByteArray} (h : s.toList = []) : s = ⟨#[]⟩ := by
  rw [ByteArray.toList_eq] at h
  exact ByteArray.ext (Array.toList_inj.1 h)
theorem OpAt.row {w : World} {b : Nat} {kd tx t k v : Int} {s : ByteArray} {mk : Int} (h : OpAt w b kd tx t k v s mk) : RowC w b 2 ⟨t, k, v, s⟩ := ⟨h.c2, h.c3, h.c4, h.c5⟩
theorem OpAt.below {w w' : World} {b B : Nat} {kd tx t k v : Int} {s : ByteArray} {mk : Int} (h : OpAt w b kd tx t k v s mk) (hb : Below B w w') (hl : b < B) : OpAt w' b kd tx t k v s mk :=
  ⟨(hb.cell (p := ⟨b, 0, none⟩) hl).trans h.c0, (hb.cell (p := ⟨b, 1, none⟩) hl).trans h.c1, (hb.cell (p := ⟨b, 2, none⟩) hl).trans h.c2, (hb.cell (p := ⟨b, 3, none⟩) hl).trans h.c3, (hb.cell (p := ⟨b, 4, none⟩) hl).trans h.c4, (hb.cell (p := ⟨b, 5, none⟩) hl).trans h.c5, (hb.cell (p := ⟨b, 6, none⟩) hl).trans h.c6⟩
theorem OpAt.lt {w : World} {b : Nat} {kd tx t k v : Int} {s : ByteArray} {mk : Int} (h : OpAt w b kd tx t k v s mk) : b < w.heap.size := World.block_lt_of_cell? w _ h.c0

set_option maxHeartbeats 400000 in
theorem l10Row_any (kd : Int) (w : World) : Calls Tryz.prog 46 #[.int .i64 kd] w fun e w' => e = .returned (.bool (inW kd 2 4)) ∧ w' = w := by
  go_enter Tryz.func46, Tryz.ntmps46
  go_wp2_with fail
  refine (l1InW_any kd 2 4 _).mono ?_
  rintro e w' ⟨rfl, rfl⟩
  go_wp2_with fail
  go_ret
  exact ⟨rfl, rfl⟩

set_option maxHeartbeats 4000000 in
theorem l10Form_1 (tx t k v : Int) (s : ByteArray) (mk : Int) (b : Nat) (w : World) (h : OpAt w b 1 tx t k v s mk) :
    Calls Tryz.prog 45 #[.pointer (some ⟨b, 0, none⟩)] w fun e w' => e = .returned (.bool (opF 1 tx t k v s mk)) ∧ w' = w := by
  obtain ⟨c0, c1, c2, c3, c4, c5, c6⟩ := h
  have h1 := l1InW_any 1 1 9 w
  have h2 := l10Row_any 1 w
  rw [show inW 1 1 9 = true from rfl] at h1
  rw [show inW 1 2 4 = false from rfl] at h2
  by_cases h_mk : mk = 0
  · subst h_mk
    by_cases h_tx : tx = 0
    · subst h_tx
      by_cases h_t : t = 0
      · subst h_t
        by_cases h_k : k = 0
        · subst h_k
          by_cases h_v : v = 0
          · subst h_v
            by_cases hs : s.toList = []
            · obtain rfl := no_bytes hs
              clear hs
              have HQ : Hid (opF 1 0 0 0 0 ⟨#[]⟩ 0 = true) := by show _ = _; simp [opF, inW, noRw, *]
              go_enter Tryz.func45, Tryz.ntmps45
              go_wp2_with fail
              refine h1.mono ?_
              rintro e w' ⟨rfl, hw⟩
              subst w'
              clear h1
              go_wp2_with fail
              refine h2.mono ?_
              rintro e w' ⟨rfl, hw⟩
              subst w'
              clear h2
              go_wp2_with fail
              go_ret
              exact ⟨by rw [HQ.out]; rfl, rfl⟩
            · have hs' : s.toList.isEmpty = false := by cases h : s.toList with | nil => exact absurd h hs | cons a l => rfl
              have HQ : Hid (opF 1 0 0 0 0 s 0 = false) := by show _ = _; simp [opF, inW, noRw, *]
              go_enter Tryz.func45, Tryz.ntmps45
              go_wp2_with fail
              refine h1.mono ?_
              rintro e w' ⟨rfl, hw⟩
              subst w'
              clear h1
              go_wp2_with fail
              refine h2.mono ?_
              rintro e w' ⟨rfl, hw⟩
              subst w'
              clear h2
              go_wp2_with fail
              go_ret
              exact ⟨by rw [HQ.out]; rfl, rfl⟩
          · have d_v : (v != 0) = true := by simpa using h_v
            have e_v : (v == 0) = false := by simpa using h_v
            have HQ : Hid (opF 1 0 0 0 v s 0 = false) := by show _ = _; simp [opF, inW, noRw, *]
            go_enter Tryz.func45, Tryz.ntmps45
            go_wp2_with fail
            refine h1.mono ?_
            rintro e w' ⟨rfl, hw⟩
            subst w'
            clear h1
            go_wp2_with fail
            refine h2.mono ?_
            rintro e w' ⟨rfl, hw⟩
            subst w'
            clear h2
            go_wp2_with fail
            go_ret
            exact ⟨by rw [HQ.out]; rfl, rfl⟩
        · have d_k : (k != 0) = true := by simpa using h_k
          have e_k : (k == 0) = false := by simpa using h_k
          have HQ : Hid (opF 1 0 0 k v s 0 = false) := by show _ = _; simp [opF, inW, noRw, *]
          go_enter Tryz.func45, Tryz.ntmps45
          go_wp2_with fail
          refine h1.mono ?_
          rintro e w' ⟨rfl, hw⟩
          subst w'
          clear h1
          go_wp2_with fail
          refine h2.mono ?_
          rintro e w' ⟨rfl, hw⟩
          subst w'
          clear h2
          go_wp2_with fail
          go_ret
          exact ⟨by rw [HQ.out]; rfl, rfl⟩
      · have d_t : (t != 0) = true := by simpa using h_t
        have e_t : (t == 0) = false := by simpa using h_t
        have HQ : Hid (opF 1 0 t k v s 0 = false) := by show _ = _; simp [opF, inW, noRw, *]
        go_enter Tryz.func45, Tryz.ntmps45
        go_wp2_with fail
        refine h1.mono ?_
        rintro e w' ⟨rfl, hw⟩
        subst w'
        clear h1
        go_wp2_with fail
        refine h2.mono ?_
        rintro e w' ⟨rfl, hw⟩
        subst w'
        clear h2
        go_wp2_with fail
        go_ret
        exact ⟨by rw [HQ.out]; rfl, rfl⟩
    · have d_tx : (tx != 0) = true := by simpa using h_tx
      have e_tx : (tx == 0) = false := by simpa using h_tx
      have HQ : Hid (opF 1 tx t k v s 0 = false) := by show _ = _; simp [opF, inW, noRw, *]
      go_enter Tryz.func45, Tryz.ntmps45
      go_wp2_with fail
      refine h1.mono ?_
      rintro e w' ⟨rfl, hw⟩
      subst w'
      clear h1
      go_wp2_with fail
      go_ret
      exact ⟨by rw [HQ.out]; rfl, rfl⟩
  · have d_mk : (mk != 0) = true := by simpa using h_mk
    have e_mk : (mk == 0) = false := by simpa using h_mk
    have HQ : Hid (opF 1 tx t k v s mk = false) := by show _ = _; simp [opF, inW, noRw, *]
    go_enter Tryz.func45, Tryz.ntmps45
    go_wp2_with fail
    refine h1.mono ?_
    rintro e w' ⟨rfl, hw⟩
    subst w'
    clear h1
    go_wp2_with fail
    go_ret
    exact ⟨by rw [HQ.out]; rfl, rfl⟩

set_option maxHeartbeats 4000000 in
theorem l10Form_9 (tx t k v : Int) (s : ByteArray) (mk : Int) (b : Nat) (w : World) (h : OpAt w b 9 tx t k v s mk) :
    Calls Tryz.prog 45 #[.pointer (some ⟨b, 0, none⟩)] w fun e w' => e = .returned (.bool (opF 9 tx t k v s mk)) ∧ w' = w := by
  obtain ⟨c0, c1, c2, c3, c4, c5, c6⟩ := h
  have h1 := l1InW_any 9 1 9 w
  have h2 := l10Row_any 9 w
  rw [show inW 9 1 9 = true from rfl] at h1
  rw [show inW 9 2 4 = false from rfl] at h2
  by_cases h_mk : mk = 0
  · subst h_mk
    by_cases h_tx : tx = 0
    · subst h_tx
      by_cases h_t : t = 0
      · subst h_t
        by_cases h_k : k = 0
        · subst h_k
          by_cases h_v : v = 0
          · subst h_v
            by_cases hs : s.toList = []
            · obtain rfl := no_bytes hs
              clear hs
              have HQ : Hid (opF 9 0 0 0 0 ⟨#[]⟩ 0 = true) := by show _ = _; simp [opF, inW, noRw, *]
              go_enter Tryz.func45, Tryz.ntmps45
              go_wp2_with fail
              refine h1.mono ?_
              rintro e w' ⟨rfl, hw⟩
              subst w'
              clear h1
              go_wp2_with fail
              refine h2.mono ?_
              rintro e w' ⟨rfl, hw⟩
              subst w'
              clear h2
              go_wp2_with fail
              go_ret
              exact ⟨by rw [HQ.out]; rfl, rfl⟩
            · have hs' : s.toList.isEmpty = false := by cases h : s.toList with | nil => exact absurd h hs | cons a l => rfl
              have HQ : Hid (opF 9 0 0 0 0 s 0 = false) := by show _ = _; simp [opF, inW, noRw, *]
              go_enter Tryz.func45, Tryz.ntmps45
              go_wp2_with fail
              refine h1.mono ?_
              rintro e w' ⟨rfl, hw⟩
              subst w'
              clear h1
              go_wp2_with fail
              refine h2.mono ?_
              rintro e w' ⟨rfl, hw⟩
              subst w'
              clear h2
              go_wp2_with fail
              go_ret
              exact ⟨by rw [HQ.out]; rfl, rfl⟩
          · have d_v : (v != 0) = true := by simpa using h_v
            have e_v : (v == 0) = false := by simpa using h_v
            have HQ : Hid (opF 9 0 0 0 v s 0 = false) := by show _ = _; simp [opF, inW, noRw, *]
            go_enter Tryz.func45, Tryz.ntmps45
            go_wp2_with fail
            refine h1.mono ?_
            rintro e w' ⟨rfl, hw⟩
            subst w'
            clear h1
            go_wp2_with fail
            refine h2.mono ?_
            rintro e w' ⟨rfl, hw⟩
            subst w'
            clear h2
            go_wp2_with fail
            go_ret
            exact ⟨by rw [HQ.out]; rfl, rfl⟩
        · have d_k : (k != 0) = true := by simpa using h_k
          have e_k : (k == 0) = false := by simpa using h_k
          have HQ : Hid (opF 9 0 0 k v s 0 = false) := by show _ = _; simp [opF, inW, noRw, *]
          go_enter Tryz.func45, Tryz.ntmps45
          go_wp2_with fail
          refine h1.mono ?_
          rintro e w' ⟨rfl, hw⟩
          subst w'
          clear h1
          go_wp2_with fail
          refine h2.mono ?_
          rintro e w' ⟨rfl, hw⟩
          subst w'
          clear h2
          go_wp2_with fail
          go_ret
          exact ⟨by rw [HQ.out]; rfl, rfl⟩
      · have d_t : (t != 0) = true := by simpa using h_t
        have e_t : (t == 0) = false := by simpa using h_t
        have HQ : Hid (opF 9 0 t k v s 0 = false) := by show _ = _; simp [opF, inW, noRw, *]
        go_enter Tryz.func45, Tryz.ntmps45
        go_wp2_with fail
        refine h1.mono ?_
        rintro e w' ⟨rfl, hw⟩
        subst w'
        clear h1
        go_wp2_with fail
        refine h2.mono ?_
        rintro e w' ⟨rfl, hw⟩
        subst w'
        clear h2
        go_wp2_with fail
        go_ret
        exact ⟨by rw [HQ.out]; rfl, rfl⟩
    · have d_tx : (tx != 0) = true := by simpa using h_tx
      have e_tx : (tx == 0) = false := by simpa using h_tx
      have HQ : Hid (opF 9 tx t k v s 0 = false) := by show _ = _; simp [opF, inW, noRw, *]
      go_enter Tryz.func45, Tryz.ntmps45
      go_wp2_with fail
      refine h1.mono ?_
      rintro e w' ⟨rfl, hw⟩
      subst w'
      clear h1
      go_wp2_with fail
      go_ret
      exact ⟨by rw [HQ.out]; rfl, rfl⟩
  · have d_mk : (mk != 0) = true := by simpa using h_mk
    have e_mk : (mk == 0) = false := by simpa using h_mk
    have HQ : Hid (opF 9 tx t k v s mk = false) := by show _ = _; simp [opF, inW, noRw, *]
    go_enter Tryz.func45, Tryz.ntmps45
    go_wp2_with fail
    refine h1.mono ?_
    rintro e w' ⟨rfl, hw⟩
    subst w'
    clear h1
    go_wp2_with fail
    go_ret
    exact ⟨by rw [HQ.out]; rfl, rfl⟩

set_option maxHeartbeats 4000000 in
theorem l10Form_2 (tx t k v : Int) (s : ByteArray) (mk : Int) (b : Nat) (w : World) (h : OpAt w b 2 tx t k v s mk) :
    Calls Tryz.prog 45 #[.pointer (some ⟨b, 0, none⟩)] w fun e w' => e = .returned (.bool (opF 2 tx t k v s mk)) ∧ w' = w := by
  obtain ⟨c0, c1, c2, c3, c4, c5, c6⟩ := h
  have h1 := l1InW_any 2 1 9 w
  have h2 := l10Row_any 2 w
  rw [show inW 2 1 9 = true from rfl] at h1
  rw [show inW 2 2 4 = true from rfl] at h2
  by_cases h_mk : mk = 0
  · subst h_mk
    have HQ : Hid (opF 2 tx t k v s 0 = true) := by show _ = _; simp [opF, inW, noRw, *]
    go_enter Tryz.func45, Tryz.ntmps45
    go_wp2_with fail
    refine h1.mono ?_
    rintro e w' ⟨rfl, hw⟩
    subst w'
    clear h1
    go_wp2_with fail
    refine h2.mono ?_
    rintro e w' ⟨rfl, hw⟩
    subst w'
    clear h2
    go_wp2_with fail
    go_ret
    exact ⟨by rw [HQ.out]; rfl, rfl⟩
  · have d_mk : (mk != 0) = true := by simpa using h_mk
    have e_mk : (mk == 0) = false := by simpa using h_mk
    have HQ : Hid (opF 2 tx t k v s mk = false) := by show _ = _; simp [opF, inW, noRw, *]
    go_enter Tryz.func45, Tryz.ntmps45
    go_wp2_with fail
    refine h1.mono ?_
    rintro e w' ⟨rfl, hw⟩
    subst w'
    clear h1
    go_wp2_with fail
    go_ret
    exact ⟨by rw [HQ.out]; rfl, rfl⟩

set_option maxHeartbeats 4000000 in
theorem l10Form_3 (tx t k v : Int) (s : ByteArray) (mk : Int) (b : Nat) (w : World) (h : OpAt w b 3 tx t k v s mk) :
    Calls Tryz.prog 45 #[.pointer (some ⟨b, 0, none⟩)] w fun e w' => e = .returned (.bool (opF 3 tx t k v s mk)) ∧ w' = w := by
  obtain ⟨c0, c1, c2, c3, c4, c5, c6⟩ := h
  have h1 := l1InW_any 3 1 9 w
  have h2 := l10Row_any 3 w
  rw [show inW 3 1 9 = true from rfl] at h1
  rw [show inW 3 2 4 = true from rfl] at h2
  by_cases h_mk : mk = 0
  · subst h_mk
    have HQ : Hid (opF 3 tx t k v s 0 = true) := by show _ = _; simp [opF, inW, noRw, *]
    go_enter Tryz.func45, Tryz.ntmps45
    go_wp2_with fail
    refine h1.mono ?_
    rintro e w' ⟨rfl, hw⟩
    subst w'
    clear h1
    go_wp2_with fail
    refine h2.mono ?_
    rintro e w' ⟨rfl, hw⟩
    subst w'
    clear h2
    go_wp2_with fail
    go_ret
    exact ⟨by rw [HQ.out]; rfl, rfl⟩
  · have d_mk : (mk != 0) = true := by simpa using h_mk
    have e_mk : (mk == 0) = false := by simpa using h_mk
    have HQ : Hid (opF 3 tx t k v s mk = false) := by show _ = _; simp [opF, inW, noRw, *]
    go_enter Tryz.func45, Tryz.ntmps45
    go_wp2_with fail
    refine h1.mono ?_
    rintro e w' ⟨rfl, hw⟩
    subst w'
    clear h1
    go_wp2_with fail
    go_ret
    exact ⟨by rw [HQ.out]; rfl, rfl⟩

set_option maxHeartbeats 4000000 in
theorem l10Form_4 (tx t k v : Int) (s : ByteArray) (mk : Int) (b : Nat) (w : World) (h : OpAt w b 4 tx t k v s mk) :
    Calls Tryz.prog 45 #[.pointer (some ⟨b, 0, none⟩)] w fun e w' => e = .returned (.bool (opF 4 tx t k v s mk)) ∧ w' = w := by
  obtain ⟨c0, c1, c2, c3, c4, c5, c6⟩ := h
  have h1 := l1InW_any 4 1 9 w
  have h2 := l10Row_any 4 w
  rw [show inW 4 1 9 = true from rfl] at h1
  rw [show inW 4 2 4 = true from rfl] at h2
  by_cases h_mk : mk = 0
  · subst h_mk
    by_cases h_v : v = 0
    · subst h_v
      by_cases hs : s.toList = []
      · obtain rfl := no_bytes hs
        clear hs
        have HQ : Hid (opF 4 tx t k 0 ⟨#[]⟩ 0 = true) := by show _ = _; simp [opF, inW, *]
        go_enter Tryz.func45, Tryz.ntmps45
        go_wp2_with fail
        refine h1.mono ?_
        rintro e w' ⟨rfl, hw⟩
        subst w'
        clear h1
        go_wp2_with fail
        go_ret
        exact ⟨by rw [HQ.out]; rfl, rfl⟩
      · have hs' : s.toList.isEmpty = false := by cases h : s.toList with | nil => exact absurd h hs | cons a l => rfl
        have HQ : Hid (opF 4 tx t k 0 s 0 = false) := by show _ = _; simp [opF, inW, *]
        go_enter Tryz.func45, Tryz.ntmps45
        go_wp2_with fail
        refine h1.mono ?_
        rintro e w' ⟨rfl, hw⟩
        subst w'
        clear h1
        go_wp2_with fail
        go_ret
        exact ⟨by rw [HQ.out]; rfl, rfl⟩
    · have d_v : (v != 0) = true := by simpa using h_v
      have e_v : (v == 0) = false := by simpa using h_v
      have HQ : Hid (opF 4 tx t k v s 0 = false) := by show _ = _; simp [opF, inW, *]
      go_enter Tryz.func45, Tryz.ntmps45
      go_wp2_with fail
      refine h1.mono ?_
      rintro e w' ⟨rfl, hw⟩
      subst w'
      clear h1
      go_wp2_with fail
      go_ret
      exact ⟨by rw [HQ.out]; rfl, rfl⟩
  · have d_mk : (mk != 0) = true := by simpa using h_mk
    have e_mk : (mk == 0) = false := by simpa using h_mk
    have HQ : Hid (opF 4 tx t k v s mk = false) := by show _ = _; simp [opF, inW, *]
    go_enter Tryz.func45, Tryz.ntmps45
    go_wp2_with fail
    refine h1.mono ?_
    rintro e w' ⟨rfl, hw⟩
    subst w'
    clear h1
    go_wp2_with fail
    go_ret
    exact ⟨by rw [HQ.out]; rfl, rfl⟩

set_option maxHeartbeats 4000000 in
theorem l10Form_5 (tx t k v : Int) (s : ByteArray) (mk : Int) (b : Nat) (w : World) (h : OpAt w b 5 tx t k v s mk) :
    Calls Tryz.prog 45 #[.pointer (some ⟨b, 0, none⟩)] w fun e w' => e = .returned (.bool (opF 5 tx t k v s mk)) ∧ w' = w := by
  obtain ⟨c0, c1, c2, c3, c4, c5, c6⟩ := h
  have h1 := l1InW_any 5 1 9 w
  have h2 := l10Row_any 5 w
  rw [show inW 5 1 9 = true from rfl] at h1
  rw [show inW 5 2 4 = false from rfl] at h2
  by_cases h_mk : mk = 0
  · subst h_mk
    by_cases h_t : t = 0
    · subst h_t
      by_cases h_k : k = 0
      · subst h_k
        by_cases h_v : v = 0
        · subst h_v
          by_cases hs : s.toList = []
          · obtain rfl := no_bytes hs
            clear hs
            have HQ : Hid (opF 5 tx 0 0 0 ⟨#[]⟩ 0 = true) := by show _ = _; simp [opF, inW, noRw, *]
            go_enter Tryz.func45, Tryz.ntmps45
            go_wp2_with fail
            refine h1.mono ?_
            rintro e w' ⟨rfl, hw⟩
            subst w'
            clear h1
            go_wp2_with fail
            refine h2.mono ?_
            rintro e w' ⟨rfl, hw⟩
            subst w'
            clear h2
            go_wp2_with fail
            go_ret
            exact ⟨by rw [HQ.out]; rfl, rfl⟩
          · have hs' : s.toList.isEmpty = false := by cases h : s.toList with | nil => exact absurd h hs | cons a l => rfl
            have HQ : Hid (opF 5 tx 0 0 0 s 0 = false) := by show _ = _; simp [opF, inW, noRw, *]
            go_enter Tryz.func45, Tryz.ntmps45
            go_wp2_with fail
            refine h1.mono ?_
            rintro e w' ⟨rfl, hw⟩
            subst w'
            clear h1
            go_wp2_with fail
            refine h2.mono ?_
            rintro e w' ⟨rfl, hw⟩
            subst w'
            clear h2
            go_wp2_with fail
            go_ret
            exact ⟨by rw [HQ.out]; rfl, rfl⟩
        · have d_v : (v != 0) = true := by simpa using h_v
          have e_v : (v == 0) = false := by simpa using h_v
          have HQ : Hid (opF 5 tx 0 0 v s 0 = false) := by show _ = _; simp [opF, inW, noRw, *]
          go_enter Tryz.func45, Tryz.ntmps45
          go_wp2_with fail
          refine h1.mono ?_
          rintro e w' ⟨rfl, hw⟩
          subst w'
          clear h1
          go_wp2_with fail
          refine h2.mono ?_
          rintro e w' ⟨rfl, hw⟩
          subst w'
          clear h2
          go_wp2_with fail
          go_ret
          exact ⟨by rw [HQ.out]; rfl, rfl⟩
      · have d_k : (k != 0) = true := by simpa using h_k
        have e_k : (k == 0) = false := by simpa using h_k
        have HQ : Hid (opF 5 tx 0 k v s 0 = false) := by show _ = _; simp [opF, inW, noRw, *]
        go_enter Tryz.func45, Tryz.ntmps45
        go_wp2_with fail
        refine h1.mono ?_
        rintro e w' ⟨rfl, hw⟩
        subst w'
        clear h1
        go_wp2_with fail
        refine h2.mono ?_
        rintro e w' ⟨rfl, hw⟩
        subst w'
        clear h2
        go_wp2_with fail
        go_ret
        exact ⟨by rw [HQ.out]; rfl, rfl⟩
    · have d_t : (t != 0) = true := by simpa using h_t
      have e_t : (t == 0) = false := by simpa using h_t
      have HQ : Hid (opF 5 tx t k v s 0 = false) := by show _ = _; simp [opF, inW, noRw, *]
      go_enter Tryz.func45, Tryz.ntmps45
      go_wp2_with fail
      refine h1.mono ?_
      rintro e w' ⟨rfl, hw⟩
      subst w'
      clear h1
      go_wp2_with fail
      refine h2.mono ?_
      rintro e w' ⟨rfl, hw⟩
      subst w'
      clear h2
      go_wp2_with fail
      go_ret
      exact ⟨by rw [HQ.out]; rfl, rfl⟩
  · have d_mk : (mk != 0) = true := by simpa using h_mk
    have e_mk : (mk == 0) = false := by simpa using h_mk
    have HQ : Hid (opF 5 tx t k v s mk = false) := by show _ = _; simp [opF, inW, noRw, *]
    go_enter Tryz.func45, Tryz.ntmps45
    go_wp2_with fail
    refine h1.mono ?_
    rintro e w' ⟨rfl, hw⟩
    subst w'
    clear h1
    go_wp2_with fail
    go_ret
    exact ⟨by rw [HQ.out]; rfl, rfl⟩

set_option maxHeartbeats 4000000 in
theorem l10Form_7 (tx t k v : Int) (s : ByteArray) (mk : Int) (b : Nat) (w : World) (h : OpAt w b 7 tx t k v s mk) :
    Calls Tryz.prog 45 #[.pointer (some ⟨b, 0, none⟩)] w fun e w' => e = .returned (.bool (opF 7 tx t k v s mk)) ∧ w' = w := by
  obtain ⟨c0, c1, c2, c3, c4, c5, c6⟩ := h
  have h1 := l1InW_any 7 1 9 w
  have h2 := l10Row_any 7 w
  rw [show inW 7 1 9 = true from rfl] at h1
  rw [show inW 7 2 4 = false from rfl] at h2
  by_cases h_mk : mk = 0
  · subst h_mk
    by_cases h_t : t = 0
    · subst h_t
      by_cases h_k : k = 0
      · subst h_k
        by_cases h_v : v = 0
        · subst h_v
          by_cases hs : s.toList = []
          · obtain rfl := no_bytes hs
            clear hs
            have HQ : Hid (opF 7 tx 0 0 0 ⟨#[]⟩ 0 = true) := by show _ = _; simp [opF, inW, noRw, *]
            go_enter Tryz.func45, Tryz.ntmps45
            go_wp2_with fail
            refine h1.mono ?_
            rintro e w' ⟨rfl, hw⟩
            subst w'
            clear h1
            go_wp2_with fail
            refine h2.mono ?_
            rintro e w' ⟨rfl, hw⟩
            subst w'
            clear h2
            go_wp2_with fail
            go_ret
            exact ⟨by rw [HQ.out]; rfl, rfl⟩
          · have hs' : s.toList.isEmpty = false := by cases h : s.toList with | nil => exact absurd h hs | cons a l => rfl
            have HQ : Hid (opF 7 tx 0 0 0 s 0 = false) := by show _ = _; simp [opF, inW, noRw, *]
            go_enter Tryz.func45, Tryz.ntmps45
            go_wp2_with fail
            refine h1.mono ?_
            rintro e w' ⟨rfl, hw⟩
            subst w'
            clear h1
            go_wp2_with fail
            refine h2.mono ?_
            rintro e w' ⟨rfl, hw⟩
            subst w'
            clear h2
            go_wp2_with fail
            go_ret
            exact ⟨by rw [HQ.out]; rfl, rfl⟩
        · have d_v : (v != 0) = true := by simpa using h_v
          have e_v : (v == 0) = false := by simpa using h_v
          have HQ : Hid (opF 7 tx 0 0 v s 0 = false) := by show _ = _; simp [opF, inW, noRw, *]
          go_enter Tryz.func45, Tryz.ntmps45
          go_wp2_with fail
          refine h1.mono ?_
          rintro e w' ⟨rfl, hw⟩
          subst w'
          clear h1
          go_wp2_with fail
          refine h2.mono ?_
          rintro e w' ⟨rfl, hw⟩
          subst w'
          clear h2
          go_wp2_with fail
          go_ret
          exact ⟨by rw [HQ.out]; rfl, rfl⟩
      · have d_k : (k != 0) = true := by simpa using h_k
        have e_k : (k == 0) = false := by simpa using h_k
        have HQ : Hid (opF 7 tx 0 k v s 0 = false) := by show _ = _; simp [opF, inW, noRw, *]
        go_enter Tryz.func45, Tryz.ntmps45
        go_wp2_with fail
        refine h1.mono ?_
        rintro e w' ⟨rfl, hw⟩
        subst w'
        clear h1
        go_wp2_with fail
        refine h2.mono ?_
        rintro e w' ⟨rfl, hw⟩
        subst w'
        clear h2
        go_wp2_with fail
        go_ret
        exact ⟨by rw [HQ.out]; rfl, rfl⟩
    · have d_t : (t != 0) = true := by simpa using h_t
      have e_t : (t == 0) = false := by simpa using h_t
      have HQ : Hid (opF 7 tx t k v s 0 = false) := by show _ = _; simp [opF, inW, noRw, *]
      go_enter Tryz.func45, Tryz.ntmps45
      go_wp2_with fail
      refine h1.mono ?_
      rintro e w' ⟨rfl, hw⟩
      subst w'
      clear h1
      go_wp2_with fail
      refine h2.mono ?_
      rintro e w' ⟨rfl, hw⟩
      subst w'
      clear h2
      go_wp2_with fail
      go_ret
      exact ⟨by rw [HQ.out]; rfl, rfl⟩
  · have d_mk : (mk != 0) = true := by simpa using h_mk
    have e_mk : (mk == 0) = false := by simpa using h_mk
    have HQ : Hid (opF 7 tx t k v s mk = false) := by show _ = _; simp [opF, inW, noRw, *]
    go_enter Tryz.func45, Tryz.ntmps45
    go_wp2_with fail
    refine h1.mono ?_
    rintro e w' ⟨rfl, hw⟩
    subst w'
    clear h1
    go_wp2_with fail
    go_ret
    exact ⟨by rw [HQ.out]; rfl, rfl⟩

set_option maxHeartbeats 4000000 in
theorem l10Form_8 (tx t k v : Int) (s : ByteArray) (mk : Int) (b : Nat) (w : World) (h : OpAt w b 8 tx t k v s mk) :
    Calls Tryz.prog 45 #[.pointer (some ⟨b, 0, none⟩)] w fun e w' => e = .returned (.bool (opF 8 tx t k v s mk)) ∧ w' = w := by
  obtain ⟨c0, c1, c2, c3, c4, c5, c6⟩ := h
  have h1 := l1InW_any 8 1 9 w
  have h2 := l10Row_any 8 w
  rw [show inW 8 1 9 = true from rfl] at h1
  rw [show inW 8 2 4 = false from rfl] at h2
  by_cases h_mk : mk = 0
  · subst h_mk
    by_cases h_t : t = 0
    · subst h_t
      by_cases h_k : k = 0
      · subst h_k
        by_cases h_v : v = 0
        · subst h_v
          by_cases hs : s.toList = []
          · obtain rfl := no_bytes hs
            clear hs
            have HQ : Hid (opF 8 tx 0 0 0 ⟨#[]⟩ 0 = true) := by show _ = _; simp [opF, inW, noRw, *]
            go_enter Tryz.func45, Tryz.ntmps45
            go_wp2_with fail
            refine h1.mono ?_
            rintro e w' ⟨rfl, hw⟩
            subst w'
            clear h1
            go_wp2_with fail
            refine h2.mono ?_
            rintro e w' ⟨rfl, hw⟩
            subst w'
            clear h2
            go_wp2_with fail
            go_ret
            exact ⟨by rw [HQ.out]; rfl, rfl⟩
          · have hs' : s.toList.isEmpty = false := by cases h : s.toList with | nil => exact absurd h hs | cons a l => rfl
            have HQ : Hid (opF 8 tx 0 0 0 s 0 = false) := by show _ = _; simp [opF, inW, noRw, *]
            go_enter Tryz.func45, Tryz.ntmps45
            go_wp2_with fail
            refine h1.mono ?_
            rintro e w' ⟨rfl, hw⟩
            subst w'
            clear h1
            go_wp2_with fail
            refine h2.mono ?_
            rintro e w' ⟨rfl, hw⟩
            subst w'
            clear h2
            go_wp2_with fail
            go_ret
            exact ⟨by rw [HQ.out]; rfl, rfl⟩
        · have d_v : (v != 0) = true := by simpa using h_v
          have e_v : (v == 0) = false := by simpa using h_v
          have HQ : Hid (opF 8 tx 0 0 v s 0 = false) := by show _ = _; simp [opF, inW, noRw, *]
          go_enter Tryz.func45, Tryz.ntmps45
          go_wp2_with fail
          refine h1.mono ?_
          rintro e w' ⟨rfl, hw⟩
          subst w'
          clear h1
          go_wp2_with fail
          refine h2.mono ?_
          rintro e w' ⟨rfl, hw⟩
          subst w'
          clear h2
          go_wp2_with fail
          go_ret
          exact ⟨by rw [HQ.out]; rfl, rfl⟩
      · have d_k : (k != 0) = true := by simpa using h_k
        have e_k : (k == 0) = false := by simpa using h_k
        have HQ : Hid (opF 8 tx 0 k v s 0 = false) := by show _ = _; simp [opF, inW, noRw, *]
        go_enter Tryz.func45, Tryz.ntmps45
        go_wp2_with fail
        refine h1.mono ?_
        rintro e w' ⟨rfl, hw⟩
        subst w'
        clear h1
        go_wp2_with fail
        refine h2.mono ?_
        rintro e w' ⟨rfl, hw⟩
        subst w'
        clear h2
        go_wp2_with fail
        go_ret
        exact ⟨by rw [HQ.out]; rfl, rfl⟩
    · have d_t : (t != 0) = true := by simpa using h_t
      have e_t : (t == 0) = false := by simpa using h_t
      have HQ : Hid (opF 8 tx t k v s 0 = false) := by show _ = _; simp [opF, inW, noRw, *]
      go_enter Tryz.func45, Tryz.ntmps45
      go_wp2_with fail
      refine h1.mono ?_
      rintro e w' ⟨rfl, hw⟩
      subst w'
      clear h1
      go_wp2_with fail
      refine h2.mono ?_
      rintro e w' ⟨rfl, hw⟩
      subst w'
      clear h2
      go_wp2_with fail
      go_ret
      exact ⟨by rw [HQ.out]; rfl, rfl⟩
  · have d_mk : (mk != 0) = true := by simpa using h_mk
    have e_mk : (mk == 0) = false := by simpa using h_mk
    have HQ : Hid (opF 8 tx t k v s mk = false) := by show _ = _; simp [opF, inW, noRw, *]
    go_enter Tryz.func45, Tryz.ntmps45
    go_wp2_with fail
    refine h1.mono ?_
    rintro e w' ⟨rfl, hw⟩
    subst w'
    clear h1
    go_wp2_with fail
    go_ret
    exact ⟨by rw [HQ.out]; rfl, rfl⟩

set_option maxHeartbeats 4000000 in
theorem l10Form_6 (tx t k v : Int) (s : ByteArray) (mk : Int) (b : Nat) (w : World) (h : OpAt w b 6 tx t k v s mk) :
    Calls Tryz.prog 45 #[.pointer (some ⟨b, 0, none⟩)] w fun e w' => e = .returned (.bool (opF 6 tx t k v s mk)) ∧ w' = w := by
  obtain ⟨c0, c1, c2, c3, c4, c5, c6⟩ := h
  have h1 := l1InW_any 6 1 9 w
  have h2 := l10Row_any 6 w
  rw [show inW 6 1 9 = true from rfl] at h1
  rw [show inW 6 2 4 = false from rfl] at h2
  by_cases h_t : t = 0
  · subst h_t
    by_cases h_k : k = 0
    · subst h_k
      by_cases h_v : v = 0
      · subst h_v
        by_cases hs : s.toList = []
        · obtain rfl := no_bytes hs
          clear hs
          have HQ : Hid (opF 6 tx 0 0 0 ⟨#[]⟩ mk = true) := by show _ = _; simp [opF, inW, noRw, *]
          go_enter Tryz.func45, Tryz.ntmps45
          go_wp2_with fail
          refine h1.mono ?_
          rintro e w' ⟨rfl, hw⟩
          subst w'
          clear h1
          go_wp2_with fail
          refine h2.mono ?_
          rintro e w' ⟨rfl, hw⟩
          subst w'
          clear h2
          go_wp2_with fail
          go_ret
          exact ⟨by rw [HQ.out]; rfl, rfl⟩
        · have hs' : s.toList.isEmpty = false := by cases h : s.toList with | nil => exact absurd h hs | cons a l => rfl
          have HQ : Hid (opF 6 tx 0 0 0 s mk = false) := by show _ = _; simp [opF, inW, noRw, *]
          go_enter Tryz.func45, Tryz.ntmps45
          go_wp2_with fail
          refine h1.mono ?_
          rintro e w' ⟨rfl, hw⟩
          subst w'
          clear h1
          go_wp2_with fail
          refine h2.mono ?_
          rintro e w' ⟨rfl, hw⟩
          subst w'
          clear h2
          go_wp2_with fail
          go_ret
          exact ⟨by rw [HQ.out]; rfl, rfl⟩
      · have d_v : (v != 0) = true := by simpa using h_v
        have e_v : (v == 0) = false := by simpa using h_v
        have HQ : Hid (opF 6 tx 0 0 v s mk = false) := by show _ = _; simp [opF, inW, noRw, *]
        go_enter Tryz.func45, Tryz.ntmps45
        go_wp2_with fail
        refine h1.mono ?_
        rintro e w' ⟨rfl, hw⟩
        subst w'
        clear h1
        go_wp2_with fail
        refine h2.mono ?_
        rintro e w' ⟨rfl, hw⟩
        subst w'
        clear h2
        go_wp2_with fail
        go_ret
        exact ⟨by rw [HQ.out]; rfl, rfl⟩
    · have d_k : (k != 0) = true := by simpa using h_k
      have e_k : (k == 0) = false := by simpa using h_k
      have HQ : Hid (opF 6 tx 0 k v s mk = false) := by show _ = _; simp [opF, inW, noRw, *]
      go_enter Tryz.func45, Tryz.ntmps45
      go_wp2_with fail
      refine h1.mono ?_
      rintro e w' ⟨rfl, hw⟩
      subst w'
      clear h1
      go_wp2_with fail
      refine h2.mono ?_
      rintro e w' ⟨rfl, hw⟩
      subst w'
      clear h2
      go_wp2_with fail
      go_ret
      exact ⟨by rw [HQ.out]; rfl, rfl⟩
  · have d_t : (t != 0) = true := by simpa using h_t
    have e_t : (t == 0) = false := by simpa using h_t
    have HQ : Hid (opF 6 tx t k v s mk = false) := by show _ = _; simp [opF, inW, noRw, *]
    go_enter Tryz.func45, Tryz.ntmps45
    go_wp2_with fail
    refine h1.mono ?_
    rintro e w' ⟨rfl, hw⟩
    subst w'
    clear h1
    go_wp2_with fail
    refine h2.mono ?_
    rintro e w' ⟨rfl, hw⟩
    subst w'
    clear h2
    go_wp2_with fail
    go_ret
    exact ⟨by rw [HQ.out]; rfl, rfl⟩

set_option maxHeartbeats 4000000 in
theorem l10Form_any (kd tx t k v : Int) (s : ByteArray) (mk : Int) (b : Nat) (w : World) (h : OpAt w b kd tx t k v s mk) :
    Calls Tryz.prog 45 #[.pointer (some ⟨b, 0, none⟩)] w fun e w' => e = .returned (.bool (opF kd tx t k v s mk)) ∧ w' = w := by
  by_cases h9 : inW kd 1 9 = true
  · rcases inW_nine h9 with rfl | rfl | rfl | rfl | rfl | rfl | rfl | rfl | rfl
    · exact l10Form_1 tx t k v s mk b w h
    · exact l10Form_2 tx t k v s mk b w h
    · exact l10Form_3 tx t k v s mk b w h
    · exact l10Form_4 tx t k v s mk b w h
    · exact l10Form_5 tx t k v s mk b w h
    · exact l10Form_6 tx t k v s mk b w h
    · exact l10Form_7 tx t k v s mk b w h
    · exact l10Form_8 tx t k v s mk b w h
    · exact l10Form_9 tx t k v s mk b w h
  · have h9 : inW kd 1 9 = false := by simpa using h9
    have HQ : Hid (opF kd tx t k v s mk = false) := by show _ = _; unfold opF; rw [h9]; rfl
    have h1 := l1InW_any kd 1 9 w
    rw [h9] at h1
    obtain ⟨c0, c1, c2, c3, c4, c5, c6⟩ := h
    clear h9
    go_enter Tryz.func45, Tryz.ntmps45
    go_wp2_with fail
    refine h1.mono ?_
    rintro e w' ⟨rfl, hw⟩
    subst w'
    clear h1
    go_wp2_with fail
    go_ret
    exact ⟨by rw [HQ.out]; rfl, rfl⟩

end Go.Proofs.YtpjlpnaamkbicaaGreatDoor
