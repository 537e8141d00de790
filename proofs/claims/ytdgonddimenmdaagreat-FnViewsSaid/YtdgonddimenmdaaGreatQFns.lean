/-
  The model's FindRow.
-/
import Derived.Test.YtdgonddimenmdaaGreatQFnr

namespace Go.Proofs.YtdgonddimenmdaaGreat
open Go.RowKit Go.Maps
set_option linter.unusedVariables false

structure SpO (w : World) (b : Nat) : Prop where
  c0 : w.cell? ⟨b, 0, none⟩ = some (.int .i64 0)
  c1 : w.cell? ⟨b, 1, none⟩ = some (.int .i64 0)
  c2 : w.cell? ⟨b, 2, none⟩ = some (.int .i64 0)
  c3 : w.cell? ⟨b, 3, none⟩ = some (.int .i64 0)
  c4 : w.cell? ⟨b, 4, none⟩ = some (.int .i64 0)
  c5 : w.cell? ⟨b, 5, none⟩ = some (.int .i64 0)
  c6 : w.cell? ⟨b, 6, none⟩ = some (.int .i64 0)
  c7 : w.cell? ⟨b, 7, none⟩ = some (.int .i64 0)
  c8 : w.cell? ⟨b, 8, none⟩ = some (.int .i64 0)
  c9 : w.cell? ⟨b, 9, none⟩ = some (.string ⟨#[]⟩)
  f0 : w.frozen? ⟨b, 0, none⟩ = false
  f1 : w.frozen? ⟨b, 1, none⟩ = false
  f2 : w.frozen? ⟨b, 2, none⟩ = false
  f3 : w.frozen? ⟨b, 3, none⟩ = false
  f4 : w.frozen? ⟨b, 4, none⟩ = false
  f5 : w.frozen? ⟨b, 5, none⟩ = false
  f6 : w.frozen? ⟨b, 6, none⟩ = false
  f7 : w.frozen? ⟨b, 7, none⟩ = false
  f8 : w.frozen? ⟨b, 8, none⟩ = false
  f9 : w.frozen? ⟨b, 9, none⟩ = false
theorem SpO.below {w w' : World} {b : Nat} (h : SpO w b) (hb : Below w.heap.size w w') : SpO w' b :=
  have hl := World.block_lt_of_cell? w _ h.c0
  have up : ∀ (p : Nat) (v : Value), w.cell? ⟨b, p, none⟩ = some v → w'.cell? ⟨b, p, none⟩ = some v := fun p v h => (hb.cell (p := ⟨b, p, none⟩) hl).trans h
  have fz : ∀ (p : Nat), w.frozen? ⟨b, p, none⟩ = false → w'.frozen? ⟨b, p, none⟩ = false := fun p h => (hb.frozen (p := ⟨b, p, none⟩) hl).trans h
  ⟨up _ _ h.c0, up _ _ h.c1, up _ _ h.c2, up _ _ h.c3, up _ _ h.c4, up _ _ h.c5, up _ _ h.c6, up _ _ h.c7, up _ _ h.c8, up _ _ h.c9, fz _ h.f0, fz _ h.f1, fz _ h.f2, fz _ h.f3, fz _ h.f4, fz _ h.f5, fz _ h.f6, fz _ h.f7, fz _ h.f8, fz _ h.f9⟩
theorem SpO.new (w : World) : SpO (w.alloc (.cells #[.int .i64 0, .int .i64 0, .int .i64 0, .int .i64 0, .int .i64 0, .int .i64 0, .int .i64 0, .int .i64 0, .int .i64 0, .string ⟨#[]⟩] 73)) w.heap.size :=
  ⟨by simp [go_sem], by simp [go_sem], by simp [go_sem], by simp [go_sem], by simp [go_sem], by simp [go_sem], by simp [go_sem], by simp [go_sem], by simp [go_sem], by simp [go_sem], by simp [go_sem], by simp [go_sem], by simp [go_sem], by simp [go_sem], by simp [go_sem], by simp [go_sem], by simp [go_sem], by simp [go_sem], by simp [go_sem], by simp [go_sem]⟩

def mtS (t k : Int) (x : Spt) : Bool := decide (x.c.t = t) && decide (x.c.k = k)
def fndS (zs : List Spt) (t k : Int) : Option Spt := zs.find? (mtS t k)
def zSp : Spt := ⟨0, 0, zC⟩
theorem fnd_fndS {ps : List (List Int)} (hp : PgOk ps) (t k : Int) : fnd ps t k = (fndS (snF (mvF (allL ps)) (allL ps)) t k).map toPl := by
  unfold fnd fndS seenL
  rw [← snF_pl (allL_ok hp).1, List.find?_map]
  rfl
theorem find_step {zs : List Spt} {j : Nat} {x : Spt} (hx : zs[j]? = some x) {f : Spt → Bool} : (zs.drop j).find? f = if f x = true then some x else (zs.drop (j + 1)).find? f := by
  rw [drop_cons hx, List.find?_cons]
  cases f x <;> rfl

set_option maxRecDepth 20000 in
set_option maxHeartbeats 4000000 in
theorem l6Find_any (a : Option Addr) (ps : List (List Int)) (n c : Nat) (t k : Int) (w : World) (hn : ps.length = n) (hm : n ≤ 12) (hp : PgOk ps) (hr : PgRead w a ps) (hq : pagesQ ps = 0) (hno : noneB (mvF (spotsOf 0 ps)) (spotsOf 0 ps) = false) :
    Calls Tryz.prog 29 #[.slice a n c, .int .i64 t, .int .i64 k] w fun e w' => e = .returned (.tuple #[.agg (spE ((fndS (snF (mvF (spotsOf 0 ps)) (spotsOf 0 ps)) t k).getD zSp)).toArray, .bool (fndS (snF (mvF (spotsOf 0 ps)) (spotsOf 0 ps)) t k).isSome]) ∧ Below w.heap.size w w' := by
  have hO := SpO.new w
  have gX : Below w.heap.size w (w.alloc (.cells #[.int .i64 0, .int .i64 0, .int .i64 0, .int .i64 0, .int .i64 0, .int .i64 0, .int .i64 0, .int .i64 0, .int .i64 0, .string ⟨#[]⟩] 73)) := by go_grown
  obtain ⟨X, hX0⟩ : ∃ X, w.alloc (.cells #[.int .i64 0, .int .i64 0, .int .i64 0, .int .i64 0, .int .i64 0, .int .i64 0, .int .i64 0, .int .i64 0, .int .i64 0, .string ⟨#[]⟩] 73) = X := ⟨_, rfl⟩
  rw [hX0] at hO gX
  have hsl := spotsOf_len ps 0 hp
  have hsn := snF_len (mvF (spotsOf 0 ps)) (spotsOf 0 ps)
  have HSn := l6Seen_any a ps n c X hn hm hp (hr.below gX (Nat.le_refl _)) hq hno
  generalize snF (mvF (spotsOf 0 ps)) (spotsOf 0 ps) = zs at HSn hsn ⊢
  obtain ⟨r, hr0⟩ : ∃ r, r = fndS zs t k := ⟨_, rfl⟩
  have HRs : Hid (fndS zs t k = r) := hr0.symm
  rw [← hr0]
  clear hr0 hr hq hno
  go_enter Tryz.func29, Tryz.ntmps29
  go_wp2_with fail
  refine HSn.mono ?_
  rintro e w1 ⟨v1, rfl, g1, o1⟩
  have hO := hO.below g1
  have g := gX.trans (g1.mono gX.size)
  obtain ⟨a1, c1, rfl, _, s1, _⟩ := SlIn.ofRow spE_len o1
  have HR : Hid (Rs spE 10 w1 a1 zs) := s1.reads
  clear s1 o1 g1 gX hX0 HSn
  obtain ⟨m, hm0⟩ : ∃ m, m = zs.length := ⟨_, rfl⟩
  have HM : Hid (zs.length = m) := hm0.symm
  have hm200 : m ≤ 200 := by omega
  rw [← hm0]
  clear hm0 hsl hsn
  go_wp2_with fail
  go_loopw [9] (fun i wr => ∃ j : Nat, j ≤ m ∧ i = .int .i64 j ∧ Hid (r = (zs.drop j).find? (mtS t k)) ∧ wr = w1) (fun i _ => m - (intOf i).toNat)
  case atStart => exact ⟨0, Nat.zero_le _, rfl, by rw [← HRs.out]; rfl, rfl⟩
  case round =>
    obtain ⟨j, hj, rfl, hf, rfl⟩ := hrel
    by_cases hlt : j < m
    · obtain ⟨x, hx⟩ := at_lt' (rs := zs) (i := j) (by rw [HM.out]; exact hlt)
      obtain ⟨b, off, rfl, X'⟩ := HR.out.spot hx
      have hjn : (j : Int) < (m : Int) := by omega
      have HF : Hid (r = if mtS t k x = true then some x else (zs.drop (j + 1)).find? (mtS t k)) := by show _ = _; rw [hf.out]; exact find_step hx
      clear hx hf
      obtain ⟨xp, xs', xq, xf, xcp, xcl, xct, xck, xcv, xcs⟩ := x
      obtain ⟨x0, x1, x2, x3, x4, x5, x6, x7, x8, x9⟩ := X'
      dsimp only at x0 x1 x2 x3 x4 x5 x6 x7 x8 x9
      by_cases h1 : xct = t
      · subst h1
        by_cases h2 : xck = k
        · subst h2
          have HF2 : Hid (r = some ⟨xp, xs', ⟨xq, xf, xcp, xcl, xct, xck, xcv, xcs⟩⟩) := by show _ = _; rw [HF.out, if_pos (by simp [mtS])]
          have HV : Hid ((spE (r.getD zSp)).toArray = #[.int .i64 xp, .int .i64 xs', .int .i64 xq, .int .i64 xf, .int .i64 xcp, .int .i64 xcl, .int .i64 xct, .int .i64 xck, .int .i64 xcv, .string xcs] ∧ r.isSome = true) := by rw [HF2.out]; exact ⟨rfl, rfl⟩
          obtain ⟨c0, c1, c2, c3, c4, c5, c6, c7, c8, c9, f0, f1, f2, f3, f4, f5, f6, f7, f8, f9⟩ := hO
          go_wp2_with fail
          refine bodyPost_ret (v := .tuple #[.agg #[.int .i64 xp, .int .i64 xs', .int .i64 xq, .int .i64 xf, .int .i64 xcp, .int .i64 xcl, .int .i64 xct, .int .i64 xck, .int .i64 xcv, .string xcs], .bool true]) (by simp [results, Tryz.results29, go_sem, *]) rfl ?_
          exact ⟨by rw [HV.out.1, HV.out.2], by go_grown⟩
        · have HF2 : Hid (r = (zs.drop (j + 1)).find? (mtS xct k)) := by show _ = _; rw [HF.out, if_neg (by simp [mtS, h2])]
          have d2 : (xck == k) = false := by simpa using h2
          go_wp2_with fail
          go_roundw
          case rel => exact ⟨j + 1, by omega, by go_num, HF2, by simp⟩
          case measure => simp [intOf]; omega
      · have HF2 : Hid (r = (zs.drop (j + 1)).find? (mtS t k)) := by show _ = _; rw [HF.out, if_neg (by simp [mtS, h1])]
        have d1 : (xct == t) = false := by simpa using h1
        go_wp2_with fail
        go_roundw
        case rel => exact ⟨j + 1, by omega, by go_num, HF2, by simp⟩
        case measure => simp [intOf]; omega
    · have e : j = m := by omega
      subst e
      have HF2 : Hid (r = none) := by show _ = _; rw [hf.out, List.drop_of_length_le (by rw [HM.out]; exact Nat.le_refl _)]; rfl
      have HV : Hid ((spE (r.getD zSp)).toArray = #[.int .i64 0, .int .i64 0, .int .i64 0, .int .i64 0, .int .i64 0, .int .i64 0, .int .i64 0, .int .i64 0, .int .i64 0, .string ⟨#[]⟩] ∧ r.isSome = false) := by rw [HF2.out]; exact ⟨rfl, rfl⟩
      obtain ⟨c0, c1, c2, c3, c4, c5, c6, c7, c8, c9, f0, f1, f2, f3, f4, f5, f6, f7, f8, f9⟩ := hO
      go_wp2_with fail
      refine bodyPost_ret (v := .tuple #[.agg #[.int .i64 0, .int .i64 0, .int .i64 0, .int .i64 0, .int .i64 0, .int .i64 0, .int .i64 0, .int .i64 0, .int .i64 0, .string ⟨#[]⟩], .bool false]) (by simp [results, Tryz.results29, go_sem, *]) rfl ?_
      exact ⟨by rw [HV.out.1, HV.out.2], by go_grown⟩

set_option maxRecDepth 20000 in
set_option maxHeartbeats 4000000 in
theorem specFindRow_any (a : Option Addr) (ps : List (List Int)) (n c : Nat) (t k : Int) (w : World) (hn : ps.length = n) (hm : n ≤ 9223372036854775807) (hp : PgOk ps) (hr : PgRead w a ps) :
    Calls Tryz.prog 12 #[.slice a n c, .int .i64 t, .int .i64 k] w fun e w' => e = .returned (plV (findR ps t k)) ∧ Below w.heap.size w w' := by
  have hO := PlO.new w
  have gX : Below w.heap.size w (w.alloc (.cells #[.int .i64 0, .int .i64 0, .int .i64 0, .int .i64 0, .int .i64 0, .int .i64 0, .string ⟨#[]⟩] 34)) := by go_grown
  obtain ⟨X, hX0⟩ : ∃ X, w.alloc (.cells #[.int .i64 0, .int .i64 0, .int .i64 0, .int .i64 0, .int .i64 0, .int .i64 0, .string ⟨#[]⟩] 34) = X := ⟨_, rfl⟩
  rw [hX0] at hO gX
  have HR : Hid (∀ W, Below w.heap.size w W → PgRead W a ps) := fun W hW => hr.below hW (Nat.le_refl _)
  have HP : Hid (PgOk ps) := hp
  have HFd := fnd_fndS hp t k
  clear hr hp
  go_enter Tryz.func12, Tryz.ntmps12
  go_wp2_with fail
  refine (l6Fault_any a ps n c _ hn hm HP.out (HR.out _ gX)).mono ?_
  rintro e w1 ⟨rfl, g1⟩
  have hO := hO.below g1
  have g := gX.trans (g1.mono gX.size)
  clear g1 gX hX0
  obtain ⟨q, hq⟩ : ∃ q, q = viewQ ps := ⟨_, rfl⟩
  have HQ : Hid (viewQ ps = q) := hq.symm
  rw [← hq]
  clear hq
  by_cases hq0 : q = 0
  · subst hq0
    obtain ⟨hq1, hq2, _⟩ := viewQ_nodup HQ.out
    have hn12 : n ≤ 12 := by
      unfold allQ at hq1
      split at hq1
      · simp at hq1
      · omega
    have hpq : pagesQ ps = 0 := by
      unfold allQ at hq1
      rw [if_neg (by omega)] at hq1
      exact hq1
    have hSp := allL_spots hq1
    have hno : noneB (mvF (spotsOf 0 ps)) (spotsOf 0 ps) = false := by
      have := stQ_zero hq2
      rw [hSp] at this
      exact this
    rw [hSp] at HFd
    have HLf : Hid (∀ W, Below w.heap.size w W → Calls Tryz.prog 29 #[.slice a n c, .int .i64 t, .int .i64 k] W fun e w' => e = .returned (.tuple #[.agg (spE ((fndS (snF (mvF (spotsOf 0 ps)) (spotsOf 0 ps)) t k).getD zSp)).toArray, .bool (fndS (snF (mvF (spotsOf 0 ps)) (spotsOf 0 ps)) t k).isSome]) ∧ Below W.heap.size W w') := fun W hW => l6Find_any a ps n c t k W hn hn12 HP.out (HR.out W hW) hpq hno
    generalize fndS (snF (mvF (spotsOf 0 ps)) (spotsOf 0 ps)) t k = r at HFd HLf
    have HFd : Hid (fnd ps t k = r.map toPl) := HFd
    clear hq1 hq2 hpq hSp hno
    cases h1 : inR t 0 3
    · have HRr : Hid (findR ps t k = rp 3) := by show _ = _; unfold findR; rw [if_pos HQ.out, h1]; rfl
      obtain ⟨c0, c1, c2, c3, c4, c5, c6, f0, f1, f2, f3, f4, f5, f6⟩ := hO
      go_wp2_with fail
      refine (l1In_any _ _ _ _).mono ?_
      rintro e w' ⟨rfl, hw'⟩
      subst w'
      rw [h1]
      clear h1
      go_wp2_with fail
      refine bodyPost_ret (v := .agg #[.int .i64 3, .int .i64 0, .int .i64 0, .int .i64 0, .int .i64 0, .int .i64 0, .string ⟨#[]⟩]) (by simp [results, Tryz.results12, go_sem, *]) rfl ?_
      exact ⟨by rw [HRr.out]; rfl, by go_grown⟩
    · cases h2 : inR k 1 99
      · have HRr : Hid (findR ps t k = rp 3) := by show _ = _; unfold findR; rw [if_pos HQ.out, h1, h2]; rfl
        obtain ⟨c0, c1, c2, c3, c4, c5, c6, f0, f1, f2, f3, f4, f5, f6⟩ := hO
        go_wp2_with fail
        refine (l1In_any _ _ _ _).mono ?_
        rintro e w' ⟨rfl, hw'⟩
        subst w'
        rw [h1]
        clear h1
        go_wp2_with fail
        refine (l1In_any _ _ _ _).mono ?_
        rintro e w' ⟨rfl, hw'⟩
        subst w'
        rw [h2]
        clear h2
        go_wp2_with fail
        refine bodyPost_ret (v := .agg #[.int .i64 3, .int .i64 0, .int .i64 0, .int .i64 0, .int .i64 0, .int .i64 0, .string ⟨#[]⟩]) (by simp [results, Tryz.results12, go_sem, *]) rfl ?_
        exact ⟨by rw [HRr.out]; rfl, by go_grown⟩
      · have HRr : Hid (findR ps t k = (r.map toPl).getD (rp 4)) := by show _ = _; unfold findR; rw [if_pos HQ.out, h1, h2, HFd.out]; rfl
        go_wp2_with fail
        refine (l1In_any _ _ _ _).mono ?_
        rintro e w' ⟨rfl, hw'⟩
        subst w'
        rw [h1]
        clear h1
        go_wp2_with fail
        refine (l1In_any _ _ _ _).mono ?_
        rintro e w' ⟨rfl, hw'⟩
        subst w'
        rw [h2]
        clear h2
        go_wp2_with fail
        refine (HLf.out _ g).mono ?_
        rintro e w2 ⟨rfl, g2⟩
        have hO := hO.below g2
        have g := g.trans (g2.mono g.size)
        have hgs := g.size
        clear g2 HLf
        cases r with
        | none =>
          simp only [Option.getD_none, Option.isSome_none, Option.map_none] at HRr ⊢
          simp only [zSp, zC, spE]
          go_upto_region 7 with (fail)
          generalize hY3 : World.alloc _ _ = Y3
          have gY3 : Below w2.heap.size w2 Y3 := by rw [← hY3]; go_grown
          have hO := hO.below gY3
          have g := g.trans (gY3.mono g.size)
          clear hY3 gY3
          obtain ⟨c0, c1, c2, c3, c4, c5, c6, f0, f1, f2, f3, f4, f5, f6⟩ := hO
          go_wp2_with fail
          refine bodyPost_ret (v := .agg #[.int .i64 4, .int .i64 0, .int .i64 0, .int .i64 0, .int .i64 0, .int .i64 0, .string ⟨#[]⟩]) (by simp [results, Tryz.results12, go_sem, *]) rfl ?_
          exact ⟨by rw [HRr.out]; rfl, by go_grown⟩
        | some x =>
          obtain ⟨xp, xs', xq, xf, xcp, xcl, xct, xck, xcv, xcs⟩ := x
          simp only [Option.getD_some, Option.isSome_some, Option.map_some] at HRr ⊢
          simp only [spE]
          go_upto_region 7 with (fail)
          generalize hY3 : World.alloc _ _ = Y3
          have gY3 : Below w2.heap.size w2 Y3 := by rw [← hY3]; go_grown
          have C : SpC Y3 w2.heap.size 0 ⟨xp, xs', ⟨xq, xf, xcp, xcl, xct, xck, xcv, xcs⟩⟩ := by rw [← hY3]; exact ⟨by simp [go_sem], by simp [go_sem], by simp [go_sem], by simp [go_sem], by simp [go_sem], by simp [go_sem], by simp [go_sem], by simp [go_sem], by simp [go_sem], by simp [go_sem]⟩
          have hO := hO.below gY3
          have g := g.trans (gY3.mono g.size)
          clear hY3 gY3
          generalize w2.heap.size = yb at C ⊢
          obtain ⟨y0, y1, y2, y3, y4, y5, y6, y7, y8, y9⟩ := C
          dsimp only at y0 y1 y2 y3 y4 y5 y6 y7 y8 y9
          obtain ⟨c0, c1, c2, c3, c4, c5, c6, f0, f1, f2, f3, f4, f5, f6⟩ := hO
          go_wp2_with fail
          refine bodyPost_ret (v := .agg #[.int .i64 0, .int .i64 xp, .int .i64 xs', .int .i64 xct, .int .i64 xck, .int .i64 xcv, .string xcs]) (by simp [results, Tryz.results12, go_sem, *]) rfl ?_
          exact ⟨by rw [HRr.out]; rfl, by go_grown⟩
  · have HRr : Hid (findR ps t k = rp q) := by show _ = _; unfold findR; rw [if_neg (by rw [HQ.out]; exact hq0), HQ.out]
    have d : (q != 0) = true := by simpa using hq0
    obtain ⟨c0, c1, c2, c3, c4, c5, c6, f0, f1, f2, f3, f4, f5, f6⟩ := hO
    go_wp2_with fail
    refine bodyPost_ret (v := .agg #[.int .i64 q, .int .i64 0, .int .i64 0, .int .i64 0, .int .i64 0, .int .i64 0, .string ⟨#[]⟩]) (by simp [results, Tryz.results12, go_sem, *]) rfl ?_
    exact ⟨by rw [HRr.out]; rfl, by go_grown⟩

end Go.Proofs.YtdgonddimenmdaaGreat
