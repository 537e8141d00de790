/-
  The law FnChanges answers true.
-/
import Derived.Test.YthhkgpflodeleaaFCFpl
import Derived.Test.YthhkgpflodeleaaFCDrh
import Derived.Test.YthhkgpflodeleaaFCLwq
import Derived.Test.YthhkgpflodeleaaFCIvs
import Derived.Test.YthhkgpflodeleaaFCMac
import Derived.Deep.RegionHeld

namespace Go.Proofs.Ythhkgpflodeleaa
open Go.ChangeShapes Go.WideShapes Go.RowKit Go.Maps
set_option linter.unusedVariables false
set_option maxRecDepth 20000

/-- What the walk is told of a slice of integers that came in: it is nil; or it leads to a row of cap cells, the numbers zs, each fitting its kind. -/
def IsRow (k : IntKind) (w : World) (a : Option Addr) (len cap : Nat) (zs : List Int) : Prop :=
  (a = none ∧ len = 0 ∧ cap = 0 ∧ zs = []) ∨
  ∃ x, a = some x ∧ len ≤ cap ∧ cap ≤ maxLen ∧ zs.length = cap ∧ (∀ i, i < zs.length → w.cell? (x.add i) = some (.int k (zs.getD i 0))) ∧ ∀ n ∈ zs, (Lit.int k n).wf = true

theorem isRow_reads {w : World} {a : Option Addr} {len cap : Nat} {zs : List Int} (h : IsRow .u8 w a len cap zs) : (zs.take len).length = len ∧ len ≤ cap ∧ Reads w a (zs.take len) ∧ ∀ z ∈ zs.take len, 0 ≤ z ∧ z ≤ 255 := by
  rcases h with ⟨rfl, rfl, rfl, rfl⟩ | ⟨x, rfl, hl, hm, hz, hc, hw⟩
  · exact ⟨rfl, Nat.le_refl _, .inl rfl, fun z hz => by simp at hz⟩
  · refine ⟨by simp; omega, hl, ?_, fun z hzz => ?_⟩
    · by_cases h0 : len = 0
      · exact .inl (by simp [h0])
      · obtain ⟨b, off, spot⟩ := x
        have hc0 := hc 0 (by omega)
        have hspot : spot = none := by simpa [Addr.add] using World.cell?_spot hc0
        subst hspot
        refine .inr ⟨b, off, rfl, fun i hi => ?_⟩
        have hil : i < len := by simp at hi; omega
        have e := hc i (by omega)
        have ea : (⟨b, off, none⟩ : Addr).add i = ⟨b, off + i, none⟩ := by unfold Addr.add; split <;> simp_all
        rw [ea] at e
        rw [e]
        simp [List.getD, hil]
    · have := hw z (List.mem_of_mem_take hzz)
      exact bounds_u8 this
theorem lwBig_small (a : Option Addr) (n c : Nat) (w : World) (h : n ≤ 1048576) : Calls Try.prog 4 #[.slice a n c] w fun e w' => e = .returned (.bool false) ∧ w' = w := by
  have d : decide ((1048576 : Int) < (n : Int)) = false := by rw [decide_eq_false_iff_not]; omega
  refine (lwBig_any a n c w).mono ?_
  rintro e w' ⟨rfl, rfl⟩
  exact ⟨by rw [d], rfl⟩
theorem lwBig_big (a : Option Addr) (n c : Nat) (w : World) (h : 1048576 < n) : Calls Try.prog 4 #[.slice a n c] w fun e w' => e = .returned (.bool true) ∧ w' = w := by
  have d : decide ((1048576 : Int) < (n : Int)) = true := by rw [decide_eq_true_iff]; omega
  refine (lwBig_any a n c w).mono ?_
  rintro e w' ⟨rfl, rfl⟩
  exact ⟨by rw [d], rfl⟩

/-- The cells of the five answers. -/
structure FcC (kb xb ib yb zb : Nat) (pc px py pz : Option Addr) (nc cc nb cx na cy nz cz : Nat) (q2 : Int) (V : World) : Prop where
  c1 : V.cell? ⟨kb, 1, none⟩ = some (.slice pc nc cc)
  x0 : V.cell? ⟨xb, 0, none⟩ = some (.int .i64 0)
  x1 : V.cell? ⟨xb, 1, none⟩ = some (.slice px nb cx)
  i0 : V.cell? ⟨ib, 0, none⟩ = some (.int .i64 0)
  y0 : V.cell? ⟨yb, 0, none⟩ = some (.int .i64 0)
  y1 : V.cell? ⟨yb, 1, none⟩ = some (.slice py na cy)
  z0 : V.cell? ⟨zb, 0, none⟩ = some (.int .i64 q2)
  z1 : V.cell? ⟨zb, 1, none⟩ = some (.slice pz nz cz)
/-- The lists that stand. -/
structure FcR (w : World) (pa pb px py pr pl pz : Option Addr) (bs az rs : List Rw) (ls : List Chg) (zs : List Rw) (V : World) : Prop where
  rA : Rs rwE 4 V pa bs
  rB : Rs rwE 4 V pb az
  rX : Rs rwE 4 V px az
  rY : Rs rwE 4 V py bs
  rR : Rs rwE 4 V pr rs
  rL : Rs chE 10 V pl ls
  rZ : Rs rwE 4 V pz zs
  g : Below w.heap.size w V
theorem cell_up {V W : World} {p : Addr} {v : Value} (h : V.cell? p = some v) (hb : Below V.heap.size V W) : W.cell? p = some v := (hb.cell (World.block_lt_of_cell? _ _ h)).trans h
theorem FcC.up {kb xb ib yb zb : Nat} {pc px py pz : Option Addr} {nc cc nb cx na cy nz cz : Nat} {q2 : Int} {V W : World} (h : FcC kb xb ib yb zb pc px py pz nc cc nb cx na cy nz cz q2 V) (hb : Below V.heap.size V W) : FcC kb xb ib yb zb pc px py pz nc cc nb cx na cy nz cz q2 W :=
  ⟨cell_up h.c1 hb, cell_up h.x0 hb, cell_up h.x1 hb, cell_up h.i0 hb, cell_up h.y0 hb, cell_up h.y1 hb, cell_up h.z0 hb, cell_up h.z1 hb⟩
theorem FcR.up {w : World} {pa pb px py pr pl pz : Option Addr} {bs az rs : List Rw} {ls : List Chg} {zs : List Rw} {V W : World} (h : FcR w pa pb px py pr pl pz bs az rs ls zs V) (hb : Below V.heap.size V W) : FcR w pa pb px py pr pl pz bs az rs ls zs W :=
  ⟨h.rA.below hb (Nat.le_refl _), h.rB.below hb (Nat.le_refl _), h.rX.below hb (Nat.le_refl _), h.rY.below hb (Nat.le_refl _), h.rR.below hb (Nat.le_refl _), h.rL.below hb (Nat.le_refl _), h.rZ.below hb (Nat.le_refl _), h.g.trans (hb.mono h.g.size)⟩
def FcS (w : World) (kb xb ib yb zb : Nat) (pc px py pz : Option Addr) (nc cc nb cx na cy nz cz : Nat) (q2 : Int) (pa pb pr pl : Option Addr) (bs az rs : List Rw) (ls : List Chg) (zs : List Rw) (V : World) : Prop :=
  FcC kb xb ib yb zb pc px py pz nc cc nb cx na cy nz cz q2 V ∧ FcR w pa pb px py pr pl pz bs az rs ls zs V
theorem FcS.up {w : World} {kb xb ib yb zb : Nat} {pc px py pz : Option Addr} {nc cc nb cx na cy nz cz : Nat} {q2 : Int} {pa pb pr pl : Option Addr} {bs az rs : List Rw} {ls : List Chg} {zs : List Rw} {V W : World} (h : FcS w kb xb ib yb zb pc px py pz nc cc nb cx na cy nz cz q2 pa pb pr pl bs az rs ls zs V) (hb : Below V.heap.size V W) : FcS w kb xb ib yb zb pc px py pz nc cc nb cx na cy nz cz q2 pa pb pr pl bs az rs ls zs W := ⟨h.1.up hb, h.2.up hb⟩
theorem ivL_short {cs : List Chg} (h : ShC cs) : ShC (ivL cs) := by
  intro c hc
  unfold ivL at hc
  split at hc
  · obtain ⟨d, hd, rfl⟩ := List.mem_map.1 (List.mem_reverse.1 hc)
    exact ⟨(h d hd).2, (h d hd).1⟩
  · simp at hc
theorem ivL_few {cs : List Chg} : (ivL cs).length ≤ cs.length := by
  unfold ivL
  split
  · simp
  · simp
theorem ShC.wide {cs : List Chg} (h : ShC cs) : ∀ x ∈ cs, x.b.s.size ≤ 1048576 ∧ x.a.s.size ≤ 1048576 := fun x hx => ⟨Nat.le_trans (h x hx).1 (by decide), Nat.le_trans (h x hx).2 (by decide)⟩

set_option maxHeartbeats 16000000 in
theorem lawChanges_any (a : Option Addr) (n c : Nat) (zs : List Int) (w : World) (hW : IsRow .u8 w a n c zs) :
    Calls Try.prog 3 #[.slice a n c] w fun e w' => e = .returned (.bool true) ∧ Below w.heap.size w w' := by
  have fr0 : ∀ (q : Int) (p : Option Addr) (n c : Nat) (W : World), (Instr.field 32 (.agg #[.int .i64 q, .slice p n c]) 0).run Try.prog W = .ok (.int .i64 q) W := fun _ _ _ _ _ => by kernel_rfl
  have fr1 : ∀ (q : Int) (p : Option Addr) (n c : Nat) (W : World), (Instr.field 32 (.agg #[.int .i64 q, .slice p n c]) 1).run Try.prog W = .ok (.slice p n c) W := fun _ _ _ _ _ => by kernel_rfl
  have fb0 : ∀ (q : Int) (p : Option Addr) (n c : Nat) (W : World), (Instr.field 29 (.agg #[.int .i64 q, .slice p n c]) 0).run Try.prog W = .ok (.int .i64 q) W := fun _ _ _ _ _ => by kernel_rfl
  obtain ⟨hl, hc, hrd, hz⟩ := isRow_reads hW
  clear hW
  generalize zs.take n = xs at hl hrd hz
  by_cases hb : 1048576 < n
  · go_enter Try.func3, Try.ntmps3
    go_wp2_with fail
    refine (lwBig_big a n c _ hb).mono ?_
    rintro e w' ⟨rfl, rfl⟩
    go_wp2_with fail
    go_ret
    exact ⟨rfl, Below.refl _ _⟩
  have HRd : Hid (∀ V, Below w.heap.size w V → Reads V a xs) := fun V hV => hrd.below hV (Nat.le_refl _)
  have HXl : Hid (xs.length = n) := hl
  have HXz : Hid (∀ z ∈ xs, 0 ≤ z ∧ z ≤ 255) := hz
  clear hrd hl hz hc
  go_enter Try.func3, Try.ntmps3
  go_wp2_with fail
  refine (lwBig_small a n c _ (by omega)).mono ?_
  rintro e w0 ⟨rfl, hw⟩
  have hw := hw.symm
  subst hw
  go_wp2_with fail
  refine (drawChangesOf_any a n c xs _ (HRd.out _ (Below.refl _ _)) HXl.out (by omega) HXz.out).mono ?_
  rintro e w1 ⟨ga, ca, bs, gb, cb, az, rfl, hP2, hRa, hRb, g1⟩
  obtain ⟨na, hna⟩ : ∃ m, bs.length = m := ⟨_, rfl⟩
  obtain ⟨nb, hnb⟩ : ∃ m, az.length = m := ⟨_, rfl⟩
  have HNa : Hid (bs.length = na) := hna
  have HNb : Hid (az.length = nb) := hnb
  have hna61 : na ≤ 61 := by rw [← hna]; exact hP2.1
  have hnb61 : nb ≤ 61 := by rw [← hnb]; exact hP2.2.1
  have HP2 : Hid (P2 bs az) := hP2
  have HSb : Hid (∀ r ∈ bs, r.s.size ≤ 1048576) := fun r hr => Nat.le_trans (hP2.2.2.1 r hr) (by decide)
  have HSa : Hid (∀ r ∈ az, r.s.size ≤ 1048576) := fun r hr => Nat.le_trans (hP2.2.2.2.1 r hr) (by decide)
  rw [hna, hnb]
  have HK1 : Hid (∀ V, Below w1.heap.size w1 V → Rs rwE 4 V (some ⟨ga, 0, none⟩) bs ∧ Rs rwE 4 V (some ⟨gb, 0, none⟩) az ∧ Below w.heap.size w V) := fun V hV => ⟨hRa.below hV (Nat.le_refl _), hRb.below hV (Nat.le_refl _), g1.trans (hV.mono g1.size)⟩
  have hcon := implChangesOf_any (some ⟨ga, 0, none⟩) (some ⟨gb, 0, none⟩) bs az na nb ca cb w1 HNa.out HNb.out (by omega) (by omega) HSb.out HSa.out hRa hRb
  clear hna hnb hP2 hRa hRb g1
  go_wp2_with (go_at_call 6; refine hcon.mono ?_)
  rintro e w2 hco
  obtain ⟨pc, cs, cc, rfl, g2, hin, hL⟩ := hco.form
  obtain ⟨q, hq⟩ : ∃ q, coQ bs az = q := ⟨_, rfl⟩
  have HQ : Hid (coQ bs az = q) := hq
  obtain ⟨nc, hnc⟩ : ∃ m, cs.length = m := ⟨_, rfl⟩
  have HNc : Hid (cs.length = nc) := hnc
  have HL : Hid (CoL bs az cs) := hL
  have hRc := hin.reads
  rw [hq, hnc]
  clear hcon hco hL hin hq hnc
  go_upto_region 5 with (fail)
  generalize hY : World.alloc _ _ = Y2
  have gY : Below w2.heap.size w2 Y2 := by rw [← hY]; go_grown
  have x0 : Y2.cell? ⟨w2.heap.size, 0, none⟩ = some (.int .i64 q) := by rw [← hY]; simp [go_sem]
  have x1 : Y2.cell? ⟨w2.heap.size, 1, none⟩ = some (.slice pc nc cc) := by rw [← hY]; simp [go_sem]
  have g12 := g2.trans (gY.mono g2.size)
  have HK2 : Hid (∀ V, Below Y2.heap.size Y2 V → (Rs rwE 4 V (some ⟨ga, 0, none⟩) bs ∧ Rs rwE 4 V (some ⟨gb, 0, none⟩) az ∧ Below w.heap.size w V) ∧ Rs chE 10 V pc cs ∧ V.cell? ⟨w2.heap.size, 1, none⟩ = some (.slice pc nc cc)) := fun V hV => ⟨HK1.out V (g12.trans (hV.mono g12.size)), (hRc.below gY (Nat.le_refl _)).below hV (Nat.le_refl _), cell_up x1 hV⟩
  clear hY gY g12 g2 hRc HK1
  generalize w2.heap.size = kb at x0 x1 HK2 ⊢
  by_cases hq0 : q = 0
  case neg =>
    have d1 : (q == 0) = false := by simpa using hq0
    have d2 : (q != 0) = true := by simpa using hq0
    obtain ⟨⟨hRa, hRb, gw⟩, -⟩ := HK2.out Y2.drew (Below.refl _ _).drew
    go_upto_region 6 with (fail)
    refine wp_region_held_drew (S := fun V => V.cell? ⟨kb, 0, none⟩ = some (.int .i64 q) ∧ Below w.heap.size w V ∧ Rs rwE 4 V (some ⟨ga, 0, none⟩) bs ∧ Rs rwE 4 V (some ⟨gb, 0, none⟩) az) (by kernel_rfl) ⟨cell_up x0 (Below.refl _ _).drew, gw, hRa, hRb⟩ (fun hHeld => ?_)
    generalize Y2.drew = D at hHeld ⊢
    clear x0 x1 HK2 hRa hRb gw
    refine wpAnyH_take (i := 0) (v := ?v1) rfl (by kernel_rfl) (by kernel_rfl) (by kernel_rfl) (fun _ _ _ h => h) (Or.inl ⟨by kernel_rfl, ?h1⟩) hHeld ?_
    case h1 => intro u hSw; (obtain ⟨x0, -⟩ := hSw); go_simp; try with_reducible rfl
    try simp only [List.getElem_toArray]
    try simp only [List.getElem_cons_succ]
    try simp only [List.getElem_cons_zero]
    try simp only [Act.put]
    try simp only [List.setIfInBounds_toArray]
    try simp only [List.set]
    refine wpAnyH_take (i := 1) (v := ?v2) rfl (by kernel_rfl) (by kernel_rfl) (by kernel_rfl) (fun _ _ _ h => h) (Or.inl ⟨by kernel_rfl, ?h2⟩) hHeld ?_
    case h2 => intro u hSw; (obtain ⟨x0, -⟩ := hSw); go_simp; try with_reducible rfl
    try simp only [List.getElem_toArray]
    try simp only [List.getElem_cons_succ]
    try simp only [List.getElem_cons_zero]
    try simp only [Act.put]
    try simp only [List.setIfInBounds_toArray]
    try simp only [List.set]
    refine wpAnyH_take (i := 4) (v := ?v3) rfl (by kernel_rfl) (by kernel_rfl) (by kernel_rfl) (fun _ _ _ h => h) (Or.inl ⟨by kernel_rfl, ?h3⟩) hHeld ?_
    case h3 => intro u hSw; (obtain ⟨x0, -⟩ := hSw); go_simp; try with_reducible rfl
    try simp only [List.getElem_toArray]
    try simp only [List.getElem_cons_succ]
    try simp only [List.getElem_cons_zero]
    try simp only [Act.put]
    try simp only [List.setIfInBounds_toArray]
    try simp only [List.set]
    refine wpAnyH_take (i := 5) (v := ?v4) rfl (by kernel_rfl) (by kernel_rfl) (by kernel_rfl) (fun _ _ _ h => h) (Or.inl ⟨by kernel_rfl, ?h4⟩) hHeld ?_
    case h4 => intro u hSw; (obtain ⟨x0, -⟩ := hSw); go_simp; try with_reducible rfl
    try simp only [List.getElem_toArray]
    try simp only [List.getElem_cons_succ]
    try simp only [List.getElem_cons_zero]
    try simp only [Act.put]
    try simp only [List.setIfInBounds_toArray]
    try simp only [List.set]
    refine wpAnyH_ready (rs := [2]) (by kernel_rfl) (by simp) ?_
    refine AllReadyH.cons rfl (fun K hK => ?_) AllReadyH.nil
    go_simp
    go_wp2_with (go_at_call 7; refine (specChangesOf_any (some ⟨ga, 0, none⟩) (some ⟨gb, 0, none⟩) bs az na nb ca cb _ HNa.out HNb.out (by omega) (by omega) HSb.out HSa.out hHeld.2.2.1 hHeld.2.2.2).mono ?_; rintro e E1 hco2; obtain ⟨pe, es, ce, rfl, gb1, -, -⟩ := hco2.form; rw [HQ.out])
    refine hK.out _ _ (⟨(gb1.cell (p := ⟨kb, 0, none⟩) (World.block_lt_of_cell? _ _ hHeld.1)).trans hHeld.1, hHeld.2.1.trans (gb1.mono hHeld.2.1.size), hHeld.2.2.1.below gb1 (Nat.le_refl _), hHeld.2.2.2.below gb1 (Nat.le_refl _)⟩) (fun hHeld => ?_)
    clear hK K
    clear gb1
    try simp only [Act.put]
    try simp only [List.setIfInBounds_toArray]
    try simp only [List.set]
    refine wpAnyH_take (i := 3) (v := ?v5) rfl (by kernel_rfl) (by kernel_rfl) (by kernel_rfl) (fun _ _ _ h => h) (Or.inl ⟨by kernel_rfl, ?h5⟩) hHeld ?_
    case h5 => intro u hSw; (obtain ⟨x0, -⟩ := hSw); go_simp; try with_reducible rfl
    try simp only [List.getElem_toArray]
    try simp only [List.getElem_cons_succ]
    try simp only [List.getElem_cons_zero]
    try simp only [Act.put]
    try simp only [List.setIfInBounds_toArray]
    try simp only [List.set]
    refine wpAnyH_take (i := 6) (v := ?v6) rfl (by kernel_rfl) (by kernel_rfl) (by kernel_rfl) (fun _ _ _ h => h) (Or.inl ⟨by kernel_rfl, ?h6⟩) hHeld ?_
    case h6 => intro u hSw; (obtain ⟨x0, -⟩ := hSw); go_simp; try with_reducible rfl
    try simp only [List.getElem_toArray]
    try simp only [List.getElem_cons_succ]
    try simp only [List.getElem_cons_zero]
    try simp only [Act.put]
    try simp only [List.setIfInBounds_toArray]
    try simp only [List.set]
    refine wpAnyH_take (i := 7) (v := ?v7) rfl (by kernel_rfl) (by kernel_rfl) (by kernel_rfl) (fun _ _ _ h => h) (Or.inl ⟨by kernel_rfl, ?h7⟩) hHeld ?_
    case h7 => intro u hSw; (obtain ⟨x0, -⟩ := hSw); go_simp; try with_reducible rfl
    try simp only [List.getElem_toArray]
    try simp only [List.getElem_cons_succ]
    try simp only [List.getElem_cons_zero]
    try simp only [Act.put]
    try simp only [List.setIfInBounds_toArray]
    try simp only [List.set]
    refine wpAnyH_done (by kernel_rfl) ?_ _
    go_wp2_with fail
    go_ret
    exact ⟨rfl, hHeld.2.1⟩
  case pos =>
    subst hq0
    obtain ⟨z1, z2⟩ := coQ_zero.1 HQ.out
    obtain ⟨few1, few2⟩ := HP2.out.2.2.2.2 z1 z2
    obtain ⟨ks, hks, hcs⟩ := HL.out.1 HQ.out
    have hkl := hks.len
    have hcl := chL_len bs az ks
    have hc60 : (chL bs az ks).length ≤ 60 := by omega
    have HSh : Hid (ShC cs) := by show ShC cs; rw [hcs]; exact chL_short HP2.out.2.2.1 HP2.out.2.2.2.1
    have hnc60 : nc ≤ 60 := by rw [← HNc.out, hcs]; exact hc60
    have HD : Hid (acQ bs cs = 0 ∧ acL bs cs = az) := by show _ ∧ _; rw [hcs]; exact ch_done z1 z2 hks
    have HI : Hid (ivQ cs = 0) := by show _ = _; rw [hcs]; exact (chL_iv z1 z2 hks hc60).1
    have HB : Hid (acQ az (ivL cs) = 0 ∧ acL az (ivL cs) = bs) := by show _ ∧ _; rw [hcs]; exact ch_back z1 z2 hks hc60
    have hce : cs.length = 0 ↔ bs = az := by rw [hcs]; exact ch_none z1 z2 hks
    obtain ⟨eb, heb⟩ : ∃ eb : Bool, eb = ((nc : Int) == 0) := ⟨_, rfl⟩
    have HEB : Hid (((nc : Int) == 0) = eb) := heb.symm
    have HE : Hid (eb = true ↔ bs = az) := by
      show _ ↔ _
      rw [← hce, HNc.out, heb]
      simp
    clear z1 z2 few1 few2 hks hcs hkl hcl hc60 hce heb HL HP2
    -- ApplyChanges forth
    obtain ⟨⟨hRa, hRb, gw⟩, hRc, -⟩ := HK2.out Y2 (Below.refl _ _)
    have hcon := implApplyChanges_any (some ⟨ga, 0, none⟩) pc bs cs na nc ca cc Y2 HNa.out HNc.out (by omega) (by omega) HSb.out HSh.out.wide hRa hRc
    clear hRa hRb gw hRc
    go_wp2_with (go_at_call 8; refine hcon.mono ?_)
    rintro e w3 hac
    obtain ⟨px, cx, rfl, g3, hinx⟩ := hac.form
    rw [HD.out.2] at hinx
    rw [HD.out.1, HD.out.2, HNb.out]
    have hRx := hinx.reads
    clear hcon hac hinx x0 x1
    go_upto_region 8 with (fail)
    generalize hY : World.alloc _ _ = Y3
    have gY : Below w3.heap.size w3 Y3 := by rw [← hY]; go_grown
    have x0 : Y3.cell? ⟨w3.heap.size, 0, none⟩ = some (.int .i64 0) := by rw [← hY]; simp [go_sem]
    have x1 : Y3.cell? ⟨w3.heap.size, 1, none⟩ = some (.slice px nb cx) := by rw [← hY]; simp [go_sem]
    have gX := g3.trans (gY.mono g3.size)
    generalize w3.heap.size = xb at x0 x1 ⊢
    have HK3 : Hid (∀ V, Below Y3.heap.size Y3 V → ((Rs rwE 4 V (some ⟨ga, 0, none⟩) bs ∧ Rs rwE 4 V (some ⟨gb, 0, none⟩) az ∧ Below w.heap.size w V) ∧ Rs chE 10 V pc cs ∧ V.cell? ⟨kb, 1, none⟩ = some (.slice pc nc cc)) ∧ Rs rwE 4 V px az ∧ V.cell? ⟨xb, 0, none⟩ = some (.int .i64 0) ∧ V.cell? ⟨xb, 1, none⟩ = some (.slice px nb cx)) := fun V hV => ⟨HK2.out V (gX.trans (hV.mono gX.size)), (hRx.below gY (Nat.le_refl _)).below hV (Nat.le_refl _), cell_up x0 hV, cell_up x1 hV⟩
    clear hY gY gX g3 hRx HK2 x0 x1
    -- InverseOf
    obtain ⟨⟨-, hRc, c1⟩, -⟩ := HK3.out Y3 (Below.refl _ _)
    have hcon := implInverseOf_any pc cs nc cc Y3 HNc.out (by omega) HSh.out.wide hRc
    clear hRc
    go_wp2_with (go_at_call 9; refine hcon.mono ?_)
    rintro e w4 ⟨pi, ci, rfl, g4, hini⟩
    rw [HI.out]
    have hRi := hini.reads
    have hni0 : (ivL cs).length ≤ nc := by rw [← HNc.out]; exact ivL_few
    obtain ⟨ni, hni⟩ : ∃ m, (ivL cs).length = m := ⟨_, rfl⟩
    have HNi : Hid ((ivL cs).length = ni) := hni
    have HShI : Hid (ShC (ivL cs)) := ivL_short HSh.out
    rw [hni] at hni0 ⊢
    clear hcon hini c1 hni
    generalize ivL cs = vs at HB hRi HNi HShI
    go_upto_region 9 with (fail)
    generalize hY : World.alloc _ _ = Y4
    have gY : Below w4.heap.size w4 Y4 := by rw [← hY]; go_grown
    have x0 : Y4.cell? ⟨w4.heap.size, 0, none⟩ = some (.int .i64 0) := by rw [← hY]; simp [go_sem]
    have x1 : Y4.cell? ⟨w4.heap.size, 1, none⟩ = some (.slice pi ni ci) := by rw [← hY]; simp [go_sem]
    have gX := g4.trans (gY.mono g4.size)
    generalize w4.heap.size = ib at x0 x1 ⊢
    have hRi := hRi.below gY (Nat.le_refl _)
    have HK4 : Hid (∀ V, Below Y4.heap.size Y4 V → (((Rs rwE 4 V (some ⟨ga, 0, none⟩) bs ∧ Rs rwE 4 V (some ⟨gb, 0, none⟩) az ∧ Below w.heap.size w V) ∧ Rs chE 10 V pc cs ∧ V.cell? ⟨kb, 1, none⟩ = some (.slice pc nc cc)) ∧ Rs rwE 4 V px az ∧ V.cell? ⟨xb, 0, none⟩ = some (.int .i64 0) ∧ V.cell? ⟨xb, 1, none⟩ = some (.slice px nb cx)) ∧ V.cell? ⟨ib, 0, none⟩ = some (.int .i64 0)) := fun V hV => ⟨HK3.out V (gX.trans (hV.mono gX.size)), cell_up x0 hV⟩
    clear hY gY gX g4 HK3 x0
    -- ApplyChanges back
    obtain ⟨⟨⟨⟨-, hRb, -⟩, -⟩, -⟩, -⟩ := HK4.out Y4 (Below.refl _ _)
    have hcon := implApplyChanges_any (some ⟨gb, 0, none⟩) pi az vs nb ni cb ci Y4 HNb.out HNi.out (by omega) (by omega) HSa.out HShI.out.wide hRb hRi
    clear hRb hRi
    go_wp2_with (go_at_call 8; refine hcon.mono ?_)
    rintro e w5 hac
    obtain ⟨py, cy, rfl, g5, hiny⟩ := hac.form
    rw [HB.out.2] at hiny
    rw [HB.out.1, HB.out.2, HNa.out]
    have hRy := hiny.reads
    clear hcon hac hiny x1
    go_upto_region 10 with (fail)
    generalize hY : World.alloc _ _ = Y5
    have gY : Below w5.heap.size w5 Y5 := by rw [← hY]; go_grown
    have x0 : Y5.cell? ⟨w5.heap.size, 0, none⟩ = some (.int .i64 0) := by rw [← hY]; simp [go_sem]
    have x1 : Y5.cell? ⟨w5.heap.size, 1, none⟩ = some (.slice py na cy) := by rw [← hY]; simp [go_sem]
    have gX := g5.trans (gY.mono g5.size)
    generalize w5.heap.size = yb at x0 x1 ⊢
    have HK5 : Hid (∀ V, Below Y5.heap.size Y5 V → ((((Rs rwE 4 V (some ⟨ga, 0, none⟩) bs ∧ Rs rwE 4 V (some ⟨gb, 0, none⟩) az ∧ Below w.heap.size w V) ∧ Rs chE 10 V pc cs ∧ V.cell? ⟨kb, 1, none⟩ = some (.slice pc nc cc)) ∧ Rs rwE 4 V px az ∧ V.cell? ⟨xb, 0, none⟩ = some (.int .i64 0) ∧ V.cell? ⟨xb, 1, none⟩ = some (.slice px nb cx)) ∧ V.cell? ⟨ib, 0, none⟩ = some (.int .i64 0)) ∧ Rs rwE 4 V py bs ∧ V.cell? ⟨yb, 0, none⟩ = some (.int .i64 0) ∧ V.cell? ⟨yb, 1, none⟩ = some (.slice py na cy)) := fun V hV => ⟨HK4.out V (gX.trans (hV.mono gX.size)), (hRy.below gY (Nat.le_refl _)).below hV (Nat.le_refl _), cell_up x0 hV, cell_up x1 hV⟩
    clear hY gY gX g5 hRy HK4 x0 x1
    -- the second draw
    have hrd := HRd.out Y5 (HK5.out Y5 (Below.refl _ _)).1.1.1.1.2.2
    go_wp2_with fail
    refine (drawApplyChanges_any a n c xs _ hrd HXl.out (by omega) HXz.out).mono ?_
    rintro e w6 ⟨pr, cr, rs, pl, cl, ls, rfl, hDh⟩
    obtain ⟨hr61, hl20, hrs, hls, hRr, hRl, g6⟩ := hDh
    obtain ⟨nr, hnr⟩ : ∃ m, rs.length = m := ⟨_, rfl⟩
    obtain ⟨nl, hnl⟩ : ∃ m, ls.length = m := ⟨_, rfl⟩
    have HNr : Hid (rs.length = nr) := hnr
    have HNl : Hid (ls.length = nl) := hnl
    have HSr : Hid (∀ r ∈ rs, r.s.size ≤ 1048576) := fun r hr => Nat.le_trans (hrs r hr) (by decide)
    have HSl : Hid (∀ x ∈ ls, x.b.s.size ≤ 1048576 ∧ x.a.s.size ≤ 1048576) := ShC.wide hls
    rw [hnr] at hr61
    rw [hnl] at hl20
    rw [hnr, hnl]
    have hcon := implApplyChanges_any pr pl rs ls nr nl cr cl w6 HNr.out HNl.out (by omega) (by omega) HSr.out HSl.out hRr hRl
    clear hnr hnl hrs hls hrd
    go_wp2_with (go_at_call 8; refine hcon.mono ?_)
    rintro e w7 hac
    obtain ⟨pz, cz, rfl, g7, hinz⟩ := hac.form
    have hRz := hinz.reads
    obtain ⟨q2, hq2⟩ : ∃ q, acQ rs ls = q := ⟨_, rfl⟩
    have HQ2 : Hid (acQ rs ls = q2) := hq2
    obtain ⟨nz, hnz⟩ : ∃ m, (acL rs ls).length = m := ⟨_, rfl⟩
    have HNz : Hid ((acL rs ls).length = nz) := hnz
    have hnz60 : nz ≤ 60 := by rw [← hnz]; exact acL_len rs ls
    rw [hq2, hnz]
    clear hcon hac hinz hq2 hnz
    go_upto_region 12 with (fail)
    generalize hY : World.alloc _ _ = Y7
    have gY : Below w7.heap.size w7 Y7 := by rw [← hY]; go_grown
    have x0 : Y7.cell? ⟨w7.heap.size, 0, none⟩ = some (.int .i64 q2) := by rw [← hY]; simp [go_sem]
    have x1 : Y7.cell? ⟨w7.heap.size, 1, none⟩ = some (.slice pz nz cz) := by rw [← hY]; simp [go_sem]
    have gX := g7.trans (gY.mono g7.size)
    generalize w7.heap.size = zb at x0 x1 ⊢
    obtain ⟨⟨⟨⟨⟨kA, kB, kg⟩, -, kc⟩, kX, kx0, kx1⟩, ki0⟩, kY, ky0, ky1⟩ := HK5.out Y7 (g6.trans (gX.mono g6.size))
    have hF : FcS w kb xb ib yb zb pc px py pz nc cc nb cx na cy nz cz q2 (some ⟨ga, 0, none⟩) (some ⟨gb, 0, none⟩) pr pl bs az rs ls (acL rs ls) Y7 :=
      ⟨⟨kc, kx0, kx1, ki0, ky0, ky1, x0, x1⟩, ⟨kA, kB, kX, kY, hRr.below gX (Nat.le_refl _), hRl.below gX (Nat.le_refl _), hRz.below gY (Nat.le_refl _), kg⟩⟩
    clear hY gY gX g6 g7 HK5 x0 x1 kA kB kg kc kX kx0 kx1 ki0 kY ky0 ky1 hRr hRl hRz HD HI HB
    have dq : ((0 : Int) == 0) = true := rfl
    have deb := HEB.out
    refine wp_region_held_drew (S := FcS w kb xb ib yb zb pc px py pz nc cc nb cx na cy nz cz q2 (some ⟨ga, 0, none⟩) (some ⟨gb, 0, none⟩) pr pl bs az rs ls (acL rs ls)) (by kernel_rfl) (hF.up (Below.refl _ _).drew) (fun hHeld => ?_)
    generalize Y7.drew = D at hHeld ⊢
    clear hF
    refine wpAnyH_take (i := 0) (v := ?v8) rfl (by kernel_rfl) (by kernel_rfl) (by kernel_rfl) (fun _ _ _ h => h) (Or.inl ⟨by kernel_rfl, ?h8⟩) hHeld ?_
    case h8 => intro u hSw; (obtain ⟨⟨c1, x0, x1, i0, y0, y1, z0, z1⟩, -⟩ := hSw); go_simp; try with_reducible rfl
    try simp only [List.getElem_toArray]
    try simp only [List.getElem_cons_succ]
    try simp only [List.getElem_cons_zero]
    try simp only [Act.put]
    try simp only [List.setIfInBounds_toArray]
    try simp only [List.set]
    refine wpAnyH_take (i := 1) (v := ?v9) rfl (by kernel_rfl) (by kernel_rfl) (by kernel_rfl) (fun _ _ _ h => h) (Or.inl ⟨by kernel_rfl, ?h9⟩) hHeld ?_
    case h9 => intro u hSw; (obtain ⟨⟨c1, x0, x1, i0, y0, y1, z0, z1⟩, -⟩ := hSw); go_simp; try with_reducible rfl
    try simp only [List.getElem_toArray]
    try simp only [List.getElem_cons_succ]
    try simp only [List.getElem_cons_zero]
    try simp only [Act.put]
    try simp only [List.setIfInBounds_toArray]
    try simp only [List.set]
    refine wpAnyH_take (i := 2) (v := ?v10) rfl (by kernel_rfl) (by kernel_rfl) (by kernel_rfl) (fun _ _ _ h => h) (Or.inl ⟨by kernel_rfl, ?h10⟩) hHeld ?_
    case h10 => intro u hSw; (obtain ⟨⟨c1, x0, x1, i0, y0, y1, z0, z1⟩, -⟩ := hSw); go_simp; try with_reducible rfl
    try simp only [List.getElem_toArray]
    try simp only [List.getElem_cons_succ]
    try simp only [List.getElem_cons_zero]
    try simp only [Act.put]
    try simp only [List.setIfInBounds_toArray]
    try simp only [List.set]
    refine wpAnyH_take (i := 3) (v := ?v11) rfl (by kernel_rfl) (by kernel_rfl) (by kernel_rfl) (fun _ _ _ h => h) (Or.inl ⟨by kernel_rfl, ?h11⟩) hHeld ?_
    case h11 => intro u hSw; (obtain ⟨⟨c1, x0, x1, i0, y0, y1, z0, z1⟩, -⟩ := hSw); go_simp; try with_reducible rfl
    try simp only [List.getElem_toArray]
    try simp only [List.getElem_cons_succ]
    try simp only [List.getElem_cons_zero]
    try simp only [Act.put]
    try simp only [List.setIfInBounds_toArray]
    try simp only [List.set]
    refine wpAnyH_take (i := 4) (v := ?v12) rfl (by kernel_rfl) (by kernel_rfl) (by kernel_rfl) (fun _ _ _ h => h) (Or.inl ⟨by kernel_rfl, ?h12⟩) hHeld ?_
    case h12 => intro u hSw; (obtain ⟨⟨c1, x0, x1, i0, y0, y1, z0, z1⟩, -⟩ := hSw); go_simp; try with_reducible rfl
    try simp only [List.getElem_toArray]
    try simp only [List.getElem_cons_succ]
    try simp only [List.getElem_cons_zero]
    try simp only [Act.put]
    try simp only [List.setIfInBounds_toArray]
    try simp only [List.set]
    refine wpAnyH_take (i := 6) (v := ?v13) rfl (by kernel_rfl) (by kernel_rfl) (by kernel_rfl) (fun _ _ _ h => h) (Or.inl ⟨by kernel_rfl, ?h13⟩) hHeld ?_
    case h13 => intro u hSw; (obtain ⟨⟨c1, x0, x1, i0, y0, y1, z0, z1⟩, -⟩ := hSw); go_simp; try with_reducible rfl
    try simp only [List.getElem_toArray]
    try simp only [List.getElem_cons_succ]
    try simp only [List.getElem_cons_zero]
    try simp only [Act.put]
    try simp only [List.setIfInBounds_toArray]
    try simp only [List.set]
    refine wpAnyH_take (i := 5) (v := ?v14) rfl (by kernel_rfl) (by kernel_rfl) (by kernel_rfl) (fun _ _ _ h => h) (Or.inl ⟨by kernel_rfl, ?h14⟩) hHeld ?_
    case h14 => intro u hSw; (obtain ⟨⟨c1, x0, x1, i0, y0, y1, z0, z1⟩, -⟩ := hSw); go_simp; try with_reducible rfl
    try simp only [List.getElem_toArray]
    try simp only [List.getElem_cons_succ]
    try simp only [List.getElem_cons_zero]
    try simp only [Act.put]
    try simp only [List.setIfInBounds_toArray]
    try simp only [List.set]
    refine wpAnyH_ready (rs := [7]) (by kernel_rfl) (by simp) ?_
    refine AllReadyH.cons rfl (fun K hK => ?_) AllReadyH.nil
    go_simp
    go_wp2_with (go_at_call 11; refine (lwRows_any px (some ⟨gb, 0, none⟩) az az nb nb cx cb true _ (by simp) HNb.out HNb.out (by omega) (by omega) hHeld.2.rX hHeld.2.rB).mono ?_; rintro e E1 ⟨rfl, gb1⟩)
    refine hK.out _ _ (hHeld.up gb1) (fun hHeld => ?_)
    clear hK K
    clear gb1
    try simp only [Act.put]
    try simp only [List.setIfInBounds_toArray]
    try simp only [List.set]
    refine wpAnyH_take (i := 8) (v := ?v15) rfl (by kernel_rfl) (by kernel_rfl) (by kernel_rfl) (fun _ _ _ h => h) (Or.inl ⟨by kernel_rfl, ?h15⟩) hHeld ?_
    case h15 => intro u hSw; (obtain ⟨⟨c1, x0, x1, i0, y0, y1, z0, z1⟩, -⟩ := hSw); go_simp; try with_reducible rfl
    try simp only [List.getElem_toArray]
    try simp only [List.getElem_cons_succ]
    try simp only [List.getElem_cons_zero]
    try simp only [Act.put]
    try simp only [List.setIfInBounds_toArray]
    try simp only [List.set]
    refine wpAnyH_take (i := 9) (v := ?v16) rfl (by kernel_rfl) (by kernel_rfl) (by kernel_rfl) (fun _ _ _ h => h) (Or.inl ⟨by kernel_rfl, ?h16⟩) hHeld ?_
    case h16 => intro u hSw; (obtain ⟨⟨c1, x0, x1, i0, y0, y1, z0, z1⟩, -⟩ := hSw); go_simp; try with_reducible rfl
    try simp only [List.getElem_toArray]
    try simp only [List.getElem_cons_succ]
    try simp only [List.getElem_cons_zero]
    try simp only [Act.put]
    try simp only [List.setIfInBounds_toArray]
    try simp only [List.set]
    refine wpAnyH_take (i := 10) (v := ?v17) rfl (by kernel_rfl) (by kernel_rfl) (by kernel_rfl) (fun _ _ _ h => h) (Or.inl ⟨by kernel_rfl, ?h17⟩) hHeld ?_
    case h17 => intro u hSw; (obtain ⟨⟨c1, x0, x1, i0, y0, y1, z0, z1⟩, -⟩ := hSw); go_simp; try with_reducible rfl
    try simp only [List.getElem_toArray]
    try simp only [List.getElem_cons_succ]
    try simp only [List.getElem_cons_zero]
    try simp only [Act.put]
    try simp only [List.setIfInBounds_toArray]
    try simp only [List.set]
    refine wpAnyH_take (i := 11) (v := ?v18) rfl (by kernel_rfl) (by kernel_rfl) (by kernel_rfl) (fun _ _ _ h => h) (Or.inl ⟨by kernel_rfl, ?h18⟩) hHeld ?_
    case h18 => intro u hSw; (obtain ⟨⟨c1, x0, x1, i0, y0, y1, z0, z1⟩, -⟩ := hSw); go_simp; try with_reducible rfl
    try simp only [List.getElem_toArray]
    try simp only [List.getElem_cons_succ]
    try simp only [List.getElem_cons_zero]
    try simp only [Act.put]
    try simp only [List.setIfInBounds_toArray]
    try simp only [List.set]
    refine wpAnyH_take (i := 12) (v := ?v19) rfl (by kernel_rfl) (by kernel_rfl) (by kernel_rfl) (fun _ _ _ h => h) (Or.inl ⟨by kernel_rfl, ?h19⟩) hHeld ?_
    case h19 => intro u hSw; (obtain ⟨⟨c1, x0, x1, i0, y0, y1, z0, z1⟩, -⟩ := hSw); go_simp; try with_reducible rfl
    try simp only [List.getElem_toArray]
    try simp only [List.getElem_cons_succ]
    try simp only [List.getElem_cons_zero]
    try simp only [Act.put]
    try simp only [List.setIfInBounds_toArray]
    try simp only [List.set]
    refine wpAnyH_take (i := 13) (v := ?v20) rfl (by kernel_rfl) (by kernel_rfl) (by kernel_rfl) (fun _ _ _ h => h) (Or.inl ⟨by kernel_rfl, ?h20⟩) hHeld ?_
    case h20 => intro u hSw; (obtain ⟨⟨c1, x0, x1, i0, y0, y1, z0, z1⟩, -⟩ := hSw); go_simp; try with_reducible rfl
    try simp only [List.getElem_toArray]
    try simp only [List.getElem_cons_succ]
    try simp only [List.getElem_cons_zero]
    try simp only [Act.put]
    try simp only [List.setIfInBounds_toArray]
    try simp only [List.set]
    refine wpAnyH_take (i := 14) (v := ?v21) rfl (by kernel_rfl) (by kernel_rfl) (by kernel_rfl) (fun _ _ _ h => h) (Or.inl ⟨by kernel_rfl, ?h21⟩) hHeld ?_
    case h21 => intro u hSw; (obtain ⟨⟨c1, x0, x1, i0, y0, y1, z0, z1⟩, -⟩ := hSw); go_simp; try with_reducible rfl
    try simp only [List.getElem_toArray]
    try simp only [List.getElem_cons_succ]
    try simp only [List.getElem_cons_zero]
    try simp only [Act.put]
    try simp only [List.setIfInBounds_toArray]
    try simp only [List.set]
    refine wpAnyH_take (i := 15) (v := ?v22) rfl (by kernel_rfl) (by kernel_rfl) (by kernel_rfl) (fun _ _ _ h => h) (Or.inl ⟨by kernel_rfl, ?h22⟩) hHeld ?_
    case h22 => intro u hSw; (obtain ⟨⟨c1, x0, x1, i0, y0, y1, z0, z1⟩, -⟩ := hSw); go_simp; try with_reducible rfl
    try simp only [List.getElem_toArray]
    try simp only [List.getElem_cons_succ]
    try simp only [List.getElem_cons_zero]
    try simp only [Act.put]
    try simp only [List.setIfInBounds_toArray]
    try simp only [List.set]
    refine wpAnyH_take (i := 16) (v := ?v23) rfl (by kernel_rfl) (by kernel_rfl) (by kernel_rfl) (fun _ _ _ h => h) (Or.inl ⟨by kernel_rfl, ?h23⟩) hHeld ?_
    case h23 => intro u hSw; (obtain ⟨⟨c1, x0, x1, i0, y0, y1, z0, z1⟩, -⟩ := hSw); go_simp; try with_reducible rfl
    try simp only [List.getElem_toArray]
    try simp only [List.getElem_cons_succ]
    try simp only [List.getElem_cons_zero]
    try simp only [Act.put]
    try simp only [List.setIfInBounds_toArray]
    try simp only [List.set]
    refine wpAnyH_take (i := 17) (v := ?v24) rfl (by kernel_rfl) (by kernel_rfl) (by kernel_rfl) (fun _ _ _ h => h) (Or.inl ⟨by kernel_rfl, ?h24⟩) hHeld ?_
    case h24 => intro u hSw; (obtain ⟨⟨c1, x0, x1, i0, y0, y1, z0, z1⟩, -⟩ := hSw); go_simp; try with_reducible rfl
    try simp only [List.getElem_toArray]
    try simp only [List.getElem_cons_succ]
    try simp only [List.getElem_cons_zero]
    try simp only [Act.put]
    try simp only [List.setIfInBounds_toArray]
    try simp only [List.set]
    refine wpAnyH_take (i := 18) (v := ?v25) rfl (by kernel_rfl) (by kernel_rfl) (by kernel_rfl) (fun _ _ _ h => h) (Or.inl ⟨by kernel_rfl, ?h25⟩) hHeld ?_
    case h25 => intro u hSw; (obtain ⟨⟨c1, x0, x1, i0, y0, y1, z0, z1⟩, -⟩ := hSw); go_simp; try with_reducible rfl
    try simp only [List.getElem_toArray]
    try simp only [List.getElem_cons_succ]
    try simp only [List.getElem_cons_zero]
    try simp only [Act.put]
    try simp only [List.setIfInBounds_toArray]
    try simp only [List.set]
    refine wpAnyH_take (i := 19) (v := ?v26) rfl (by kernel_rfl) (by kernel_rfl) (by kernel_rfl) (fun _ _ _ h => h) (Or.inl ⟨by kernel_rfl, ?h26⟩) hHeld ?_
    case h26 => intro u hSw; (obtain ⟨⟨c1, x0, x1, i0, y0, y1, z0, z1⟩, -⟩ := hSw); go_simp; try with_reducible rfl
    try simp only [List.getElem_toArray]
    try simp only [List.getElem_cons_succ]
    try simp only [List.getElem_cons_zero]
    try simp only [Act.put]
    try simp only [List.setIfInBounds_toArray]
    try simp only [List.set]
    refine wpAnyH_take (i := 20) (v := ?v27) rfl (by kernel_rfl) (by kernel_rfl) (by kernel_rfl) (fun _ _ _ h => h) (Or.inl ⟨by kernel_rfl, ?h27⟩) hHeld ?_
    case h27 => intro u hSw; (obtain ⟨⟨c1, x0, x1, i0, y0, y1, z0, z1⟩, -⟩ := hSw); go_simp; try with_reducible rfl
    try simp only [List.getElem_toArray]
    try simp only [List.getElem_cons_succ]
    try simp only [List.getElem_cons_zero]
    try simp only [Act.put]
    try simp only [List.setIfInBounds_toArray]
    try simp only [List.set]
    refine wpAnyH_take (i := 22) (v := ?v28) rfl (by kernel_rfl) (by kernel_rfl) (by kernel_rfl) (fun _ _ _ h => h) (Or.inl ⟨by kernel_rfl, ?h28⟩) hHeld ?_
    case h28 => intro u hSw; (obtain ⟨⟨c1, x0, x1, i0, y0, y1, z0, z1⟩, -⟩ := hSw); go_simp; try with_reducible rfl
    try simp only [List.getElem_toArray]
    try simp only [List.getElem_cons_succ]
    try simp only [List.getElem_cons_zero]
    try simp only [Act.put]
    try simp only [List.setIfInBounds_toArray]
    try simp only [List.set]
    refine wpAnyH_take (i := 21) (v := ?v29) rfl (by kernel_rfl) (by kernel_rfl) (by kernel_rfl) (fun _ _ _ h => h) (Or.inl ⟨by kernel_rfl, ?h29⟩) hHeld ?_
    case h29 => intro u hSw; (obtain ⟨⟨c1, x0, x1, i0, y0, y1, z0, z1⟩, -⟩ := hSw); go_simp; try with_reducible rfl
    try simp only [List.getElem_toArray]
    try simp only [List.getElem_cons_succ]
    try simp only [List.getElem_cons_zero]
    try simp only [Act.put]
    try simp only [List.setIfInBounds_toArray]
    try simp only [List.set]
    refine wpAnyH_ready (rs := [23]) (by kernel_rfl) (by simp) ?_
    refine AllReadyH.cons rfl (fun K hK => ?_) AllReadyH.nil
    go_simp
    go_wp2_with (go_at_call 11; refine (lwRows_any py (some ⟨ga, 0, none⟩) bs bs na na cy ca true _ (by simp) HNa.out HNa.out (by omega) (by omega) hHeld.2.rY hHeld.2.rA).mono ?_; rintro e E2 ⟨rfl, gb1⟩)
    refine hK.out _ _ (hHeld.up gb1) (fun hHeld => ?_)
    clear hK K
    clear gb1
    try simp only [Act.put]
    try simp only [List.setIfInBounds_toArray]
    try simp only [List.set]
    refine wpAnyH_take (i := 24) (v := ?v30) rfl (by kernel_rfl) (by kernel_rfl) (by kernel_rfl) (fun _ _ _ h => h) (Or.inl ⟨by kernel_rfl, ?h30⟩) hHeld ?_
    case h30 => intro u hSw; (obtain ⟨⟨c1, x0, x1, i0, y0, y1, z0, z1⟩, -⟩ := hSw); go_simp; try with_reducible rfl
    try simp only [List.getElem_toArray]
    try simp only [List.getElem_cons_succ]
    try simp only [List.getElem_cons_zero]
    try simp only [Act.put]
    try simp only [List.setIfInBounds_toArray]
    try simp only [List.set]
    refine wpAnyH_take (i := 25) (v := ?v31) rfl (by kernel_rfl) (by kernel_rfl) (by kernel_rfl) (fun _ _ _ h => h) (Or.inl ⟨by kernel_rfl, ?h31⟩) hHeld ?_
    case h31 => intro u hSw; (obtain ⟨⟨c1, x0, x1, i0, y0, y1, z0, z1⟩, -⟩ := hSw); go_simp; try with_reducible rfl
    try simp only [List.getElem_toArray]
    try simp only [List.getElem_cons_succ]
    try simp only [List.getElem_cons_zero]
    try simp only [Act.put]
    try simp only [List.setIfInBounds_toArray]
    try simp only [List.set]
    refine wpAnyH_take (i := 26) (v := ?v32) rfl (by kernel_rfl) (by kernel_rfl) (by kernel_rfl) (fun _ _ _ h => h) (Or.inl ⟨by kernel_rfl, ?h32⟩) hHeld ?_
    case h32 => intro u hSw; (obtain ⟨⟨c1, x0, x1, i0, y0, y1, z0, z1⟩, -⟩ := hSw); go_simp; try with_reducible rfl
    try simp only [List.getElem_toArray]
    try simp only [List.getElem_cons_succ]
    try simp only [List.getElem_cons_zero]
    try simp only [Act.put]
    try simp only [List.setIfInBounds_toArray]
    try simp only [List.set]
    refine wpAnyH_take (i := 30) (v := ?v33) rfl (by kernel_rfl) (by kernel_rfl) (by kernel_rfl) (fun _ _ _ h => h) (Or.inl ⟨by kernel_rfl, ?h33⟩) hHeld ?_
    case h33 => intro u hSw; (obtain ⟨⟨c1, x0, x1, i0, y0, y1, z0, z1⟩, -⟩ := hSw); go_simp; try with_reducible rfl
    try simp only [List.getElem_toArray]
    try simp only [List.getElem_cons_succ]
    try simp only [List.getElem_cons_zero]
    try simp only [Act.put]
    try simp only [List.setIfInBounds_toArray]
    try simp only [List.set]
    refine wpAnyH_take (i := 31) (v := ?v34) rfl (by kernel_rfl) (by kernel_rfl) (by kernel_rfl) (fun _ _ _ h => h) (Or.inl ⟨by kernel_rfl, ?h34⟩) hHeld ?_
    case h34 => intro u hSw; (obtain ⟨⟨c1, x0, x1, i0, y0, y1, z0, z1⟩, -⟩ := hSw); go_simp; try with_reducible rfl
    try simp only [List.getElem_toArray]
    try simp only [List.getElem_cons_succ]
    try simp only [List.getElem_cons_zero]
    try simp only [Act.put]
    try simp only [List.setIfInBounds_toArray]
    try simp only [List.set]
    refine wpAnyH_take (i := 27) (v := ?v35) rfl (by kernel_rfl) (by kernel_rfl) (by kernel_rfl) (fun _ _ _ h => h) (Or.inl ⟨by kernel_rfl, ?h35⟩) hHeld ?_
    case h35 => intro u hSw; (obtain ⟨⟨c1, x0, x1, i0, y0, y1, z0, z1⟩, -⟩ := hSw); go_simp; try with_reducible rfl
    try simp only [List.getElem_toArray]
    try simp only [List.getElem_cons_succ]
    try simp only [List.getElem_cons_zero]
    try simp only [Act.put]
    try simp only [List.setIfInBounds_toArray]
    try simp only [List.set]
    refine wpAnyH_take (i := 28) (v := ?v36) rfl (by kernel_rfl) (by kernel_rfl) (by kernel_rfl) (fun _ _ _ h => h) (Or.inl ⟨by kernel_rfl, ?h36⟩) hHeld ?_
    case h36 => intro u hSw; (obtain ⟨⟨c1, x0, x1, i0, y0, y1, z0, z1⟩, -⟩ := hSw); go_simp; try with_reducible rfl
    try simp only [List.getElem_toArray]
    try simp only [List.getElem_cons_succ]
    try simp only [List.getElem_cons_zero]
    try simp only [Act.put]
    try simp only [List.setIfInBounds_toArray]
    try simp only [List.set]
    refine wpAnyH_take (i := 29) (v := ?v37) rfl (by kernel_rfl) (by kernel_rfl) (by kernel_rfl) (fun _ _ _ h => h) (Or.inl ⟨by kernel_rfl, ?h37⟩) hHeld ?_
    case h37 => intro u hSw; (obtain ⟨⟨c1, x0, x1, i0, y0, y1, z0, z1⟩, -⟩ := hSw); go_simp; try with_reducible rfl
    try simp only [List.getElem_toArray]
    try simp only [List.getElem_cons_succ]
    try simp only [List.getElem_cons_zero]
    try simp only [Act.put]
    try simp only [List.setIfInBounds_toArray]
    try simp only [List.set]
    refine wpAnyH_ready (rs := [32]) (by kernel_rfl) (by simp) ?_
    refine AllReadyH.cons rfl (fun K hK => ?_) AllReadyH.nil
    go_simp
    go_wp2_with (go_at_call 11; refine (lwRows_any (some ⟨ga, 0, none⟩) (some ⟨gb, 0, none⟩) bs az na nb ca cb eb _ HE.out HNa.out HNb.out (by omega) (by omega) hHeld.2.rA hHeld.2.rB).mono ?_; rintro e E3 ⟨rfl, gb1⟩)
    refine hK.out _ _ (hHeld.up gb1) (fun hHeld => ?_)
    clear hK K
    clear gb1
    try simp only [Act.put]
    try simp only [List.setIfInBounds_toArray]
    try simp only [List.set]
    refine wpAnyH_take (i := 33) (v := ?v38) rfl (by kernel_rfl) (by kernel_rfl) (by kernel_rfl) (fun _ _ _ h => h) (Or.inl ⟨by kernel_rfl, ?h38⟩) hHeld ?_
    case h38 => intro u hSw; (obtain ⟨⟨c1, x0, x1, i0, y0, y1, z0, z1⟩, -⟩ := hSw); go_simp; try with_reducible rfl
    try simp only [List.getElem_toArray]
    try simp only [List.getElem_cons_succ]
    try simp only [List.getElem_cons_zero]
    try simp only [Act.put]
    try simp only [List.setIfInBounds_toArray]
    try simp only [List.set]
    refine wpAnyH_take (i := 34) (v := ?v39) rfl (by kernel_rfl) (by kernel_rfl) (by kernel_rfl) (fun _ _ _ h => h) (Or.inl ⟨by kernel_rfl, ?h39⟩) hHeld ?_
    case h39 => intro u hSw; (obtain ⟨⟨c1, x0, x1, i0, y0, y1, z0, z1⟩, -⟩ := hSw); go_simp; try with_reducible rfl
    try simp only [List.getElem_toArray]
    try simp only [List.getElem_cons_succ]
    try simp only [List.getElem_cons_zero]
    try simp only [Act.put]
    try simp only [List.setIfInBounds_toArray]
    try simp only [List.set]
    refine wpAnyH_take (i := 35) (v := ?v40) rfl (by kernel_rfl) (by kernel_rfl) (by kernel_rfl) (fun _ _ _ h => h) (Or.inl ⟨by kernel_rfl, ?h40⟩) hHeld ?_
    case h40 => intro u hSw; (obtain ⟨⟨c1, x0, x1, i0, y0, y1, z0, z1⟩, -⟩ := hSw); go_simp; try with_reducible rfl
    try simp only [List.getElem_toArray]
    try simp only [List.getElem_cons_succ]
    try simp only [List.getElem_cons_zero]
    try simp only [Act.put]
    try simp only [List.setIfInBounds_toArray]
    try simp only [List.set]
    refine wpAnyH_take (i := 36) (v := ?v41) rfl (by kernel_rfl) (by kernel_rfl) (by kernel_rfl) (fun _ _ _ h => h) (Or.inl ⟨by kernel_rfl, ?h41⟩) hHeld ?_
    case h41 => intro u hSw; (obtain ⟨⟨c1, x0, x1, i0, y0, y1, z0, z1⟩, -⟩ := hSw); go_simp; try with_reducible rfl
    try simp only [List.getElem_toArray]
    try simp only [List.getElem_cons_succ]
    try simp only [List.getElem_cons_zero]
    try simp only [Act.put]
    try simp only [List.setIfInBounds_toArray]
    try simp only [List.set]
    refine wpAnyH_take (i := 38) (v := ?v42) rfl (by kernel_rfl) (by kernel_rfl) (by kernel_rfl) (fun _ _ _ h => h) (Or.inl ⟨by kernel_rfl, ?h42⟩) hHeld ?_
    case h42 => intro u hSw; (obtain ⟨⟨c1, x0, x1, i0, y0, y1, z0, z1⟩, -⟩ := hSw); go_simp; try with_reducible rfl
    try simp only [List.getElem_toArray]
    try simp only [List.getElem_cons_succ]
    try simp only [List.getElem_cons_zero]
    try simp only [Act.put]
    try simp only [List.setIfInBounds_toArray]
    try simp only [List.set]
    refine wpAnyH_take (i := 39) (v := ?v43) rfl (by kernel_rfl) (by kernel_rfl) (by kernel_rfl) (fun _ _ _ h => h) (Or.inl ⟨by kernel_rfl, ?h43⟩) hHeld ?_
    case h43 => intro u hSw; (obtain ⟨⟨c1, x0, x1, i0, y0, y1, z0, z1⟩, -⟩ := hSw); go_simp; try with_reducible rfl
    try simp only [List.getElem_toArray]
    try simp only [List.getElem_cons_succ]
    try simp only [List.getElem_cons_zero]
    try simp only [Act.put]
    try simp only [List.setIfInBounds_toArray]
    try simp only [List.set]
    refine wpAnyH_take (i := 37) (v := ?v44) rfl (by kernel_rfl) (by kernel_rfl) (by kernel_rfl) (fun _ _ _ h => h) (Or.inl ⟨by kernel_rfl, ?h44⟩) hHeld ?_
    case h44 => intro u hSw; (obtain ⟨⟨c1, x0, x1, i0, y0, y1, z0, z1⟩, -⟩ := hSw); go_simp; try with_reducible rfl
    try simp only [List.getElem_toArray]
    try simp only [List.getElem_cons_succ]
    try simp only [List.getElem_cons_zero]
    try simp only [Act.put]
    try simp only [List.setIfInBounds_toArray]
    try simp only [List.set]
    refine wpAnyH_ready (rs := [40]) (by kernel_rfl) (by simp) ?_
    refine AllReadyH.cons rfl (fun K hK => ?_) AllReadyH.nil
    go_simp
    go_wp2_with (go_at_call 12; refine (specApplyChanges_any pr pl rs ls nr nl cr cl _ HNr.out HNl.out (by omega) (by omega) HSr.out HSl.out hHeld.2.rR hHeld.2.rL).mono ?_; rintro e E4 hac; obtain ⟨p4, c4, rfl, gb1, -⟩ := hac.form; rw [HQ2.out, HNz.out])
    refine hK.out _ _ (hHeld.up gb1) (fun hHeld => ?_)
    clear hK K
    clear gb1
    try simp only [Act.put]
    try simp only [List.setIfInBounds_toArray]
    try simp only [List.set]
    refine wpAnyH_take (i := 41) (v := ?v45) rfl (by kernel_rfl) (by kernel_rfl) (by kernel_rfl) (fun _ _ _ h => h) (Or.inl ⟨by kernel_rfl, ?h45⟩) hHeld ?_
    case h45 => intro u hSw; (obtain ⟨⟨c1, x0, x1, i0, y0, y1, z0, z1⟩, -⟩ := hSw); go_simp; try with_reducible rfl
    try simp only [List.getElem_toArray]
    try simp only [List.getElem_cons_succ]
    try simp only [List.getElem_cons_zero]
    try simp only [Act.put]
    try simp only [List.setIfInBounds_toArray]
    try simp only [List.set]
    refine wpAnyH_take (i := 42) (v := ?v46) rfl (by kernel_rfl) (by kernel_rfl) (by kernel_rfl) (fun _ _ _ h => h) (Or.inl ⟨by kernel_rfl, ?h46⟩) hHeld ?_
    case h46 => intro u hSw; (obtain ⟨⟨c1, x0, x1, i0, y0, y1, z0, z1⟩, -⟩ := hSw); go_simp; try with_reducible rfl
    try simp only [List.getElem_toArray]
    try simp only [List.getElem_cons_succ]
    try simp only [List.getElem_cons_zero]
    try simp only [Act.put]
    try simp only [List.setIfInBounds_toArray]
    try simp only [List.set]
    refine wpAnyH_take (i := 43) (v := ?v47) rfl (by kernel_rfl) (by kernel_rfl) (by kernel_rfl) (fun _ _ _ h => h) (Or.inl ⟨by kernel_rfl, ?h47⟩) hHeld ?_
    case h47 => intro u hSw; (obtain ⟨⟨c1, x0, x1, i0, y0, y1, z0, z1⟩, -⟩ := hSw); go_simp; try with_reducible rfl
    try simp only [List.getElem_toArray]
    try simp only [List.getElem_cons_succ]
    try simp only [List.getElem_cons_zero]
    try simp only [Act.put]
    try simp only [List.setIfInBounds_toArray]
    try simp only [List.set]
    refine wpAnyH_take (i := 44) (v := ?v48) rfl (by kernel_rfl) (by kernel_rfl) (by kernel_rfl) (fun _ _ _ h => h) (Or.inl ⟨by kernel_rfl, ?h48⟩) hHeld ?_
    case h48 => intro u hSw; (obtain ⟨⟨c1, x0, x1, i0, y0, y1, z0, z1⟩, -⟩ := hSw); go_simp; try with_reducible rfl
    try simp only [List.getElem_toArray]
    try simp only [List.getElem_cons_succ]
    try simp only [List.getElem_cons_zero]
    try simp only [Act.put]
    try simp only [List.setIfInBounds_toArray]
    try simp only [List.set]
    refine wpAnyH_take (i := 45) (v := ?v49) rfl (by kernel_rfl) (by kernel_rfl) (by kernel_rfl) (fun _ _ _ h => h) (Or.inl ⟨by kernel_rfl, ?h49⟩) hHeld ?_
    case h49 => intro u hSw; (obtain ⟨⟨c1, x0, x1, i0, y0, y1, z0, z1⟩, -⟩ := hSw); go_simp; try with_reducible rfl
    try simp only [List.getElem_toArray]
    try simp only [List.getElem_cons_succ]
    try simp only [List.getElem_cons_zero]
    try simp only [Act.put]
    try simp only [List.setIfInBounds_toArray]
    try simp only [List.set]
    refine wpAnyH_take (i := 47) (v := ?v50) rfl (by kernel_rfl) (by kernel_rfl) (by kernel_rfl) (fun _ _ _ h => h) (Or.inl ⟨by kernel_rfl, ?h50⟩) hHeld ?_
    case h50 => intro u hSw; (obtain ⟨⟨c1, x0, x1, i0, y0, y1, z0, z1⟩, -⟩ := hSw); go_simp; try with_reducible rfl
    try simp only [List.getElem_toArray]
    try simp only [List.getElem_cons_succ]
    try simp only [List.getElem_cons_zero]
    try simp only [Act.put]
    try simp only [List.setIfInBounds_toArray]
    try simp only [List.set]
    refine wpAnyH_take (i := 48) (v := ?v51) rfl (by kernel_rfl) (by kernel_rfl) (by kernel_rfl) (fun _ _ _ h => h) (Or.inl ⟨by kernel_rfl, ?h51⟩) hHeld ?_
    case h51 => intro u hSw; (obtain ⟨⟨c1, x0, x1, i0, y0, y1, z0, z1⟩, -⟩ := hSw); go_simp; try with_reducible rfl
    try simp only [List.getElem_toArray]
    try simp only [List.getElem_cons_succ]
    try simp only [List.getElem_cons_zero]
    try simp only [Act.put]
    try simp only [List.setIfInBounds_toArray]
    try simp only [List.set]
    refine wpAnyH_take (i := 46) (v := ?v52) rfl (by kernel_rfl) (by kernel_rfl) (by kernel_rfl) (fun _ _ _ h => h) (Or.inl ⟨by kernel_rfl, ?h52⟩) hHeld ?_
    case h52 => intro u hSw; (obtain ⟨⟨c1, x0, x1, i0, y0, y1, z0, z1⟩, -⟩ := hSw); go_simp; try with_reducible rfl
    try simp only [List.getElem_toArray]
    try simp only [List.getElem_cons_succ]
    try simp only [List.getElem_cons_zero]
    try simp only [Act.put]
    try simp only [List.setIfInBounds_toArray]
    try simp only [List.set]
    refine wpAnyH_ready (rs := [49]) (by kernel_rfl) (by simp) ?_
    refine AllReadyH.cons rfl (fun K hK => ?_) AllReadyH.nil
    go_simp
    go_wp2_with (go_at_call 12; refine (specApplyChanges_any pr pl rs ls nr nl cr cl _ HNr.out HNl.out (by omega) (by omega) HSr.out HSl.out hHeld.2.rR hHeld.2.rL).mono ?_; rintro e E5 hac; obtain ⟨p5, c5, rfl, gb1, hin5⟩ := hac.form; rw [HQ2.out, HNz.out]; have hr5 := hin5.reads; clear hin5)
    refine hK.out _ _ (hHeld.up gb1) (fun hHeld => ?_)
    clear hK K
    clear gb1
    try simp only [Act.put]
    try simp only [List.setIfInBounds_toArray]
    try simp only [List.set]
    refine wpAnyH_take (i := 50) (v := ?v53) rfl (by kernel_rfl) (by kernel_rfl) (by kernel_rfl) (fun _ _ _ h => h) (Or.inl ⟨by kernel_rfl, ?h53⟩) hHeld ?_
    case h53 => intro u hSw; (obtain ⟨⟨c1, x0, x1, i0, y0, y1, z0, z1⟩, -⟩ := hSw); go_simp; try with_reducible rfl
    try simp only [List.getElem_toArray]
    try simp only [List.getElem_cons_succ]
    try simp only [List.getElem_cons_zero]
    try simp only [Act.put]
    try simp only [List.setIfInBounds_toArray]
    try simp only [List.set]
    refine wpAnyH_ready (rs := [51]) (by kernel_rfl) (by simp) ?_
    refine AllReadyH.cons rfl (fun K hK => ?_) AllReadyH.nil
    go_simp
    go_wp2_with (go_at_call 11; refine (lwRows_any pz p5 (acL rs ls) (acL rs ls) nz nz cz c5 true _ (by simp) HNz.out HNz.out (by omega) (by omega) hHeld.2.rZ hr5).mono ?_; rintro e E6 ⟨rfl, gb1⟩)
    refine hK.out _ _ (hHeld.up gb1) (fun hHeld => ?_)
    clear hK K
    clear gb1
    try simp only [Act.put]
    try simp only [List.setIfInBounds_toArray]
    try simp only [List.set]
    refine wpAnyH_take (i := 52) (v := ?v54) rfl (by kernel_rfl) (by kernel_rfl) (by kernel_rfl) (fun _ _ _ h => h) (Or.inl ⟨by kernel_rfl, ?h54⟩) hHeld ?_
    case h54 => intro u hSw; (obtain ⟨⟨c1, x0, x1, i0, y0, y1, z0, z1⟩, -⟩ := hSw); go_simp; try with_reducible rfl
    try simp only [List.getElem_toArray]
    try simp only [List.getElem_cons_succ]
    try simp only [List.getElem_cons_zero]
    try simp only [Act.put]
    try simp only [List.setIfInBounds_toArray]
    try simp only [List.set]
    refine wpAnyH_take (i := 53) (v := ?v55) rfl (by kernel_rfl) (by kernel_rfl) (by kernel_rfl) (fun _ _ _ h => h) (Or.inl ⟨by kernel_rfl, ?h55⟩) hHeld ?_
    case h55 => intro u hSw; (obtain ⟨⟨c1, x0, x1, i0, y0, y1, z0, z1⟩, -⟩ := hSw); go_simp; try with_reducible rfl
    try simp only [List.getElem_toArray]
    try simp only [List.getElem_cons_succ]
    try simp only [List.getElem_cons_zero]
    try simp only [Act.put]
    try simp only [List.setIfInBounds_toArray]
    try simp only [List.set]
    refine wpAnyH_done (by kernel_rfl) ?_ _
    go_wp2_with fail
    go_ret
    exact ⟨rfl, hHeld.2.g⟩

end Go.Proofs.Ythhkgpflodeleaa
