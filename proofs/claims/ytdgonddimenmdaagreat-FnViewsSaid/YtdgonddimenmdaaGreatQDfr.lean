/-
  The draws of FnViews: DrawRowsIn, DrawFindRow.
-/
import Derived.Test.YtdgonddimenmdaaGreatQLbe
import Derived.Test.YtdgonddimenmdaaGreatQLpt

namespace Go.Proofs.YtdgonddimenmdaaGreat
open Go.RowKit
set_option linter.unusedVariables false
set_option maxRecDepth 20000

theorem drawRowsIn_any (a : Option Addr) (n c : Nat) (zs : List Int) (w : World) (rd : Reads w a zs) (hn : zs.length = n) (hm : n ≤ 1048576) (hz : ∀ z ∈ zs, 0 ≤ z ∧ z ≤ 255) :
    Calls Tryz.prog 5 #[.slice a n c] w fun e w' => ∃ pg m ps, e = .returned (.slice (some ⟨pg, 0, none⟩) m m) ∧ List.length ps = m ∧ (m = 2 ∨ m = 13) ∧ PgRead w' (some ⟨pg, 0, none⟩) ps ∧ PgOk ps ∧ Below w.heap.size w w' := by
  go_enter Tryz.func5, Tryz.ntmps5
  go_wp2_with fail
  refine (l1Source_any a n c zs w rd hn hm hz).mono ?_
  rintro e w1 ⟨rfl, g1, hl1, hS⟩
  go_wp2_with fail
  refine (l6Bent_any w.heap.size a n c zs 0 w1 hS (by omega)).mono ?_
  rintro e w2 ⟨pg, m, ps, rfl, hpl, hm2, hrd, hok, T, _⟩
  go_wp2_with fail
  go_ret
  exact ⟨pg, m, ps, rfl, hpl, hm2, hrd _ (Turned.refl _ _ _), hok, g1.trans (T.toBelow g1.size (Nat.le_refl _))⟩

theorem drawFindRow_any (a : Option Addr) (n c : Nat) (zs : List Int) (w : World) (rd : Reads w a zs) (hn : zs.length = n) (hm : n ≤ 1048576) (hz : ∀ z ∈ zs, 0 ≤ z ∧ z ≤ 255) :
    Calls Tryz.prog 11 #[.slice a n c] w fun e w' => ∃ pg m ps, ∃ t k : Int, e = .returned (.tuple #[.slice (some ⟨pg, 0, none⟩) m m, .int .i64 t, .int .i64 k]) ∧ List.length ps = m ∧ (m = 2 ∨ m = 13) ∧ PgRead w' (some ⟨pg, 0, none⟩) ps ∧ PgOk ps ∧ Below w.heap.size w w' := by
  go_enter Tryz.func11, Tryz.ntmps11
  go_wp2_with fail
  refine (l1Source_any a n c zs w rd hn hm hz).mono ?_
  rintro e w1 ⟨rfl, g1, hl1, hS⟩
  go_wp2_with fail
  refine (l6Bent_any w.heap.size a n c zs 0 w1 hS (by omega)).mono ?_
  rintro e w2 ⟨pg, m, ps, rfl, hpl, hm2, hrd, hok, T, j, hj, hS⟩
  have hj0 := hS.i0
  have hlb := hS.lt
  go_wp2_with fail
  refine (l1Pick_any w.heap.size w2.heap.size 4 a n c zs [0, 1, 2, 4] j _ (hS.below (by go_grown)) (by omega) ?_ rfl (by omega) (by omega) hlb).mono ?_
  · intro k hk
    match k, hk with
    | 0, _ => simp [go_sem]
    | 1, _ => simp [go_sem]
    | 2, _ => simp [go_sem]
    | 3, _ => simp [go_sem]
  rintro e w3 ⟨⟨kt, hkt, rfl⟩, t3, hS3⟩
  have T3 := (Turned.ofBelow (lo := w.heap.size) (hi := w.heap.size + 1) (show Below w2.heap.size w2 _ by go_grown)).trans t3
  generalize ([0, 1, 2, 4] : List Int).getD kt 0 = tt
  clear t3 hkt hS
  go_wp2_with fail
  refine (l1Next_any w.heap.size a n c zs (j + 1) 6 _ hS3 (by omega) (by omega) (by omega)).mono ?_
  rintro e w4 ⟨⟨r, rfl, r0, r1⟩, t4, hS4⟩
  have T3 := T3.trans t4
  clear t4 hS3
  go_wp2_with fail
  refine (l1Next_any w.heap.size a n c zs (j + 1 + 1) 6 _ hS4 (by omega) (by omega) (by omega)).mono ?_
  rintro e w5 ⟨⟨q, rfl, q0, q1⟩, t5, hS5⟩
  have T3 := T3.trans t5
  have hlb5 := hS5.lt
  clear t5 hS4
  go_wp2_with fail
  refine (l1Pick_any w.heap.size w5.heap.size 3 a n c zs [1 + r, 1 + q, 0] (j + 1 + 1 + 1) _ (hS5.below (by go_grown)) (by omega) ?_ rfl (by omega) (by omega) hlb5).mono ?_
  · intro k hk
    match k, hk with
    | 0, _ => simp [go_sem]
    | 1, _ => simp [go_sem]
    | 2, _ => simp [go_sem]
  rintro e w6 ⟨⟨ku, hku, rfl⟩, t6, hS6⟩
  have T3 := (T3.trans (Turned.ofBelow (lo := w.heap.size) (hi := w.heap.size + 1) (show Below w5.heap.size w5 _ by go_grown))).trans t6
  generalize ([1 + r, 1 + q, 0] : List Int).getD ku 0 = kk
  clear t6 hku hS5
  have HF : Hid (PgRead w6 (some ⟨pg, 0, none⟩) ps ∧ Below w.heap.size w w6) := ⟨hrd _ T3, g1.trans ((T.trans T3).toBelow g1.size (Nat.le_refl _))⟩
  clear hrd T T3 g1
  go_wp2_with fail
  go_ret3
  exact ⟨pg, m, ps, tt, kk, rfl, hpl, hm2, HF.out.1, hok, HF.out.2⟩

end Go.Proofs.YtdgonddimenmdaaGreat

/-
  The model's RowsIn.
-/
namespace Go.Proofs.YtdgonddimenmdaaGreat
open Go.RowKit Go.Maps
set_option linter.unusedVariables false

def spR (x : Spt) : Rw := ⟨x.c.t, x.c.k, x.c.v, x.c.s⟩
def OrdL (zs : List Spt) (rs : List Rw) : Prop := rs.Perm (zs.map spR) ∧ rs.Pairwise rLt

theorem OrdL.step {zs : List Spt} {j : Nat} {x : Spt} {rs new : List Rw} (h : OrdL (zs.take j) rs) (hx : zs[j]? = some x) (hd : (zs.map fun y => (y.c.t, y.c.k)).Nodup) (hp : PutAt rs (spR x) new) : OrdL (zs.take (j + 1)) new := by
  refine ⟨?_, hp.sorted h.2 fun r hr => ?_⟩
  · rw [take_snoc hx, List.map_append]
    refine hp.perm.trans ((List.Perm.cons _ h.1).trans ?_)
    exact (List.perm_append_singleton (spR x) _).symm
  · intro ⟨e1, e2⟩
    obtain ⟨y, hy, rfl⟩ := List.mem_map.1 (h.1.mem_iff.1 hr)
    have hd2 : ((zs.take (j + 1)).map fun y => (y.c.t, y.c.k)).Nodup := by
      rw [List.map_take]
      exact hd.sublist (List.take_sublist _ _)
    rw [take_snoc hx, List.map_append] at hd2
    have := (List.nodup_append.1 hd2).2.2 (y.c.t, y.c.k) (List.mem_map.2 ⟨y, hy, rfl⟩) (x.c.t, x.c.k) (by simp)
    exact this (by simp only [spR] at e1 e2; rw [e1, e2])

set_option maxRecDepth 20000 in
set_option maxHeartbeats 4000000 in
theorem l6RowsIn_any (a : Option Addr) (ps : List (List Int)) (n c : Nat) (w : World) (hn : ps.length = n) (hm : n ≤ 12) (hp : PgOk ps) (hr : PgRead w a ps) (hq : pagesQ ps = 0) (hno : noneB (mvF (spotsOf 0 ps)) (spotsOf 0 ps) = false) (hnd : ((snF (mvF (spotsOf 0 ps)) (spotsOf 0 ps)).map fun y => (y.c.t, y.c.k)).Nodup) :
    Calls Tryz.prog 20 #[.slice a n c] w fun e w' => ∃ g cap rs, e = .returned (.slice (some ⟨g, 0, none⟩) rs.length cap) ∧ Below w.heap.size w w' ∧ w'.ownsRow w.heap.size 32 4 (.slice (some ⟨g, 0, none⟩) rs.length cap) rs.length (flat rwE rs) ∧ OrdL (snF (mvF (spotsOf 0 ps)) (spotsOf 0 ps)) rs := by
  have hsl := spotsOf_len ps 0 hp
  have hsn := snF_len (mvF (spotsOf 0 ps)) (spotsOf 0 ps)
  have HSn := fun (V : World) (hV : Below w.heap.size w V) => l6Seen_any a ps n c V hn hm hp (hr.below hV (Nat.le_refl _)) hq hno
  generalize snF (mvF (spotsOf 0 ps)) (spotsOf 0 ps) = zs at HSn hsn hnd ⊢
  have HSn : Hid (∀ (V : World), Below w.heap.size w V → Calls Tryz.prog 49 #[.slice a n c] V fun e w' => ∃ v, e = .returned v ∧ Below V.heap.size V w' ∧ w'.ownsRow V.heap.size 73 10 v zs.length (flat spE zs)) := HSn
  have HND : Hid ((zs.map fun y => (y.c.t, y.c.k)).Nodup) := hnd
  clear hr hq hno hnd
  go_enter Tryz.func20, Tryz.ntmps20
  go_wp2_with fail
  have gA : Below w.heap.size w (w.alloc (.cells #[] 32)) := by go_grown
  have hL := ownsRow_lit0 w 32 4
  refine (HSn.out _ gA).mono ?_
  rintro e w1 ⟨v1, rfl, g1, o1⟩
  have hL := ownsRow_below hL g1
  have g := gA.trans (g1.mono gA.size)
  obtain ⟨a1, c1, rfl, _, s1, _⟩ := SlIn.ofRow spE_len o1
  have HR : Hid (Rs spE 10 w1 a1 zs) := s1.reads
  clear s1 o1 g1 gA HSn
  obtain ⟨m, hm0⟩ : ∃ m, m = zs.length := ⟨_, rfl⟩
  have HM : Hid (zs.length = m) := hm0.symm
  have hm200 : m ≤ 200 := by omega
  rw [← hm0]
  clear hm0 hsl hsn
  go_wp2_with fail
  go_loopw [5, 3] (fun i v wr => ∃ j : Nat, j ≤ m ∧ i = .int .i64 j ∧ Below w.heap.size w wr ∧ Below w1.heap.size w1 wr ∧ ∃ g cap rs, v = .slice (some ⟨g, 0, none⟩) rs.length cap ∧ wr.ownsRow w.heap.size 32 4 (.slice (some ⟨g, 0, none⟩) rs.length cap) rs.length (flat rwE rs) ∧ OrdL (zs.take j) rs) (fun i _ _ => m - (intOf i).toNat)
  case atStart => exact ⟨0, Nat.zero_le _, rfl, g, Below.refl _ _, _, _, [], rfl, hL, List.Perm.nil, List.Pairwise.nil⟩
  case round =>
    clear hL
    obtain ⟨j, hj, rfl, gr, g1r, rg, rcap, rs, rfl, ho, hord⟩ := hrel
    by_cases hlt : j < m
    · obtain ⟨x, hx⟩ := at_lt' (rs := zs) (i := j) (by rw [HM.out]; exact hlt)
      obtain ⟨b, off, rfl, X'⟩ := HR.out.spot hx
      have X' := X'.below g1r X'.lt
      have hjn : (j : Int) < (m : Int) := by omega
      have hrl : rs.length ≤ 1000 := by
        have := hord.1.length_eq
        rw [List.length_map, List.length_take] at this
        omega
      have HStep : Hid (∀ new, PutAt rs (spR x) new → OrdL (zs.take (j + 1)) new) := fun new h => hord.step hx HND.out h
      obtain ⟨a', c', e', hcap, hin, _⟩ := SlIn.ofRow rwE_len ho
      cases e'
      have hR := hin.reads
      obtain ⟨xp, xs', xq, xf, xcp, xcl, xct, xck, xcv, xcs⟩ := x
      obtain ⟨x0, x1, x2, x3, x4, x5, x6, x7, x8, x9⟩ := X'
      dsimp only at x0 x1 x2 x3 x4 x5 x6 x7 x8 x9
      have hcon := l6Put_any rg rs.length rcap rs xct xck xcv xcs wr rfl hrl hcap hR
      have HStep : Hid (∀ new, PutAt rs ⟨xct, xck, xcv, xcs⟩ new → OrdL (zs.take (j + 1)) new) := HStep
      have hgs := gr.size
      clear hx hord hin
      generalize rs.length = rn at hcon ho ⊢
      clear ho
      go_wp2_with (go_at_call 50; refine hcon.mono ?_; rintro e w8 ⟨g8, c8, new, rfl, hP, b8, o8⟩)
      have HO : Hid (OrdL (zs.take (j + 1)) new) := HStep.out new hP
      have b1 := gr.trans (b8.mono gr.size)
      have b2 := g1r.trans (b8.mono g1r.size)
      have o8 := ownsRow_base o8 hgs
      clear hP hcon HStep hR
      go_wp2_with fail
      go_roundw
      case rel => exact ⟨j + 1, by omega, by go_num, b1, b2, _, _, new, rfl, o8, HO.out⟩
      case measure => simp [intOf]; omega
    · have HE : Hid (OrdL zs rs) := by
        show OrdL _ _
        have : zs.take j = zs := List.take_of_length_le (by rw [HM.out]; omega)
        rw [this] at hord
        exact hord
      have hjm : ¬ (j : Int) < (m : Int) := by omega
      clear hord
      have HO : Hid (wr.ownsRow w.heap.size 32 4 (.slice (some ⟨rg, 0, none⟩) rs.length rcap) rs.length (flat rwE rs)) := ho
      clear ho
      go_wp2_with fail
      go_ret
      exact ⟨_, _, rs, rfl, gr, HO.out, HE.out⟩

theorem seen_rows {ps : List (List Int)} (hp : PgOk ps) : (seenL ps).map (·.r) = (snF (mvF (allL ps)) (allL ps)).map spR := by
  unfold seenL
  rw [← snF_pl (allL_ok hp).1, List.map_map]
  rfl
theorem seen_keys2 {ps : List (List Int)} (hp : PgOk ps) : (seenKV ps).map (·.1) = (snF (mvF (allL ps)) (allL ps)).map fun y => (y.c.t, y.c.k) := by
  unfold seenKV seenL
  rw [← snF_pl (allL_ok hp).1, List.map_map, List.map_map]
  rfl

set_option maxRecDepth 20000 in
set_option maxHeartbeats 4000000 in
theorem specRowsIn_any (a : Option Addr) (ps : List (List Int)) (n c : Nat) (w : World) (hn : ps.length = n) (hm : n ≤ 9223372036854775807) (hp : PgOk ps) (hr : PgRead w a ps) :
    Calls Tryz.prog 7 #[.slice a n c] w fun e w' => RiPost ps w e w' := by
  have hO := RsO.new w
  have gX : Below w.heap.size w (w.alloc (.cells #[.int .i64 0, .slice none 0 0] 28)) := by go_grown
  have hlX : w.heap.size < (w.alloc (.cells #[.int .i64 0, .slice none 0 0] 28)).heap.size := by simp
  obtain ⟨X, hX0⟩ : ∃ X, w.alloc (.cells #[.int .i64 0, .slice none 0 0] 28) = X := ⟨_, rfl⟩
  rw [hX0] at hO gX hlX
  have HRd : Hid (∀ W, Below w.heap.size w W → PgRead W a ps) := fun W hW => hr.below hW (Nat.le_refl _)
  have HP : Hid (PgOk ps) := hp
  clear hr hp
  go_enter Tryz.func7, Tryz.ntmps7
  go_wp2_with fail
  refine (l6Fault_any a ps n c _ hn hm HP.out (HRd.out _ gX)).mono ?_
  rintro e w1 ⟨rfl, g1⟩
  have hO := hO.below g1 hlX
  have hlX := Nat.lt_of_lt_of_le hlX g1.size
  have g := gX.trans (g1.mono gX.size)
  clear g1 gX hX0
  obtain ⟨q, hq⟩ : ∃ q, q = viewQ ps := ⟨_, rfl⟩
  have HQ : Hid (viewQ ps = q) := hq.symm
  rw [← hq]
  clear hq
  by_cases hq0 : q = 0
  · subst hq0
    obtain ⟨hq1, hq2, hq3⟩ := viewQ_nodup HQ.out
    have hn12 : n ≤ 12 := by
      unfold allQ at hq1
      split at hq1
      · simp at hq1
      · omega
    have hpq : pagesQ ps = 0 := by
      unfold allQ at hq1
      rw [if_neg (by omega)] at hq1
      exact hq1
    have hSp := allL_spots hq1
    have hno : noneB (mvF (spotsOf 0 ps)) (spotsOf 0 ps) = false := by
      have := stQ_zero hq2
      rw [hSp] at this
      exact this
    rw [seen_keys2 HP.out, hSp] at hq3
    have hcon := l6RowsIn_any a ps n c w1 hn hn12 HP.out (HRd.out _ g) hpq hno hq3
    have HRw : Hid ((seenL ps).map (·.r) = (snF (mvF (spotsOf 0 ps)) (spotsOf 0 ps)).map spR) := by
      show _ = _
      rw [seen_rows HP.out, hSp]
    generalize snF (mvF (spotsOf 0 ps)) (spotsOf 0 ps) = zs at hcon HRw
    clear hq1 hq2 hpq hSp hno hq3
    obtain ⟨c0, c1, f0, f1⟩ := hO
    go_upto_region 4 with (fail)
    go_wp2_with (go_at_call 20; refine hcon.mono ?_)
    rintro e w2 ⟨g2, cap2, rs, rfl, b2, o2, hord⟩
    have HO : Hid (RowsOrd ps rs) := by
      show RowsOrd _ _
      exact ⟨by rw [HRw.out]; exact hord.1, hord.2⟩
    have hO : RsO w2 w.heap.size := RsO.below (w := w1) ⟨c0, c1, f0, f1⟩ b2 hlX
    have g' := g.trans (b2.mono g.size)
    clear hord hcon c0 c1 f0 f1
    obtain ⟨c0, c1, f0, f1⟩ := hO
    obtain ⟨rn, hrn⟩ : ∃ rn, rn = rs.length := ⟨_, rfl⟩
    rw [← hrn] at o2 ⊢
    have HRN : Hid (rn = rs.length) := hrn
    clear hrn
    have hs0 := g.size
    go_wp2_with fail
    refine bodyPost_ret (v := .agg #[.int .i64 0, .slice (some ⟨g2, 0, none⟩) rn cap2]) (by simp [results, Tryz.results7, go_sem, *]) rfl ?_
    refine ⟨_, rs, by rw [HQ.out], by go_grown, ?_, fun _ => HO.out, fun h => absurd HQ.out h⟩
    rw [← HRN.out]
    exact ownsRow_base (ownsRow_setCell_below (ownsRow_setCell_below o2 (by dsimp only; omega) _) (by dsimp only; omega) _) (by omega)
  · have d : (q != 0) = true := by simpa using hq0
    obtain ⟨c0, c1, f0, f1⟩ := hO
    go_wp2_with fail
    refine bodyPost_ret (v := .agg #[.int .i64 q, .slice none 0 0]) (by simp [results, Tryz.results7, go_sem, *]) rfl ?_
    exact ⟨_, [], by rw [HQ.out], by go_grown, ownsRow_nil _ _ _ _, fun h => absurd (HQ.out.symm.trans h) hq0, fun _ => rfl⟩

end Go.Proofs.YtdgonddimenmdaaGreat
