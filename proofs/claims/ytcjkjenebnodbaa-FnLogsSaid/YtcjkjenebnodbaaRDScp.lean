/-
  The contracts of the model's l2Compact and CompactPage.
-/
import Derived.Test.YtcjkjenebnodbaaRDDraw
import Derived.Test.YtcjkjenebnodbaaRDLpo
import Derived.Test.YtcjkjenebnodbaaRDLpq
import Derived.Lib.SmallJoins

namespace Go.Proofs.Ytcjkjenebnodbaa.Dr
open Go.RowKit
set_option linter.unusedVariables false

theorem Sl64.turned {w w' : World} {g lo hi : Nat} {zs : List Int} (h : Sl64 w g zs) (ht : Turned lo hi w w') (hn : g < lo ∨ hi ≤ g) : Sl64 w' g zs := ⟨h.len, by obtain ⟨tl, hh⟩ := h.row; exact ⟨tl, (ht.block g h.lt (by omega)).trans hh⟩⟩

set_option maxHeartbeats 4000000 in
set_option maxRecDepth 10000 in
theorem l2Compact_any (a : Option Addr) (zs : List Int) (c : Nat) (w : World) (hr : Reads w a zs) (h : Fine zs) (hc : 64 ≤ c) :
    Calls Try.prog 138 #[.slice a 64 c] w fun e w' => ∃ g, e = .returned (.slice (some ⟨g, 0, none⟩) 64 64) ∧ Below w.heap.size w w' ∧ w.heap.size ≤ g ∧ Sl64 w' g (cpP zs (nb zs 0)) := by
  obtain ⟨i0, hi, hz0, hz1, hz2⟩ := info5
  have hfew := h.few
  have hsum := h.sum
  have hlz := h.pg.len
  have HR : Hid (Reads w a zs) := hr
  obtain ⟨b, off, rfl⟩ : ∃ b off, a = some ⟨b, off, none⟩ := by
    rcases hr with hr | ⟨b, off, ha, _⟩
    · rw [hr] at hlz; simp at hlz
    · exact ⟨b, off, ha⟩
  obtain ⟨n, hn⟩ : ∃ n, n = nb zs 0 := ⟨_, rfl⟩
  have HN : Hid (nb zs 0 = n) := hn.symm
  have hcl0 : Hid (∀ k, k < n → (cellOf zs k).length = nb zs (3 + 2 * k)) := fun k hk => cellOf_length h k (by rw [← hn]; exact hk)
  have hplace : Hid (∀ k, k < n → (nb zs (2 + 2 * k) = 0 ∧ nb zs (3 + 2 * k) = 0) ∨ (nb zs (2 + 2 * k) ≠ 0 ∧ nb zs (3 + 2 * k) ≠ 0 ∧ nb zs 1 ≤ nb zs (2 + 2 * k) ∧ nb zs (2 + 2 * k) + nb zs (3 + 2 * k) ≤ 64)) := fun k hk => h.place k (by rw [← hn]; exact hk)
  have hlens : Hid (∀ k, k ≤ n → lens zs k ≤ 62) := fun k hk => by
    have := lens_le zs k (n - k)
    rw [show k + (n - k) = nb zs 0 by omega] at this
    omega
  have HEnd : Hid ((cmM zs n).set 1 ((64 - lens zs n : Nat) : Int) = cpP zs n) := by show _ = _; rw [hn]; exact both_end h
  rw [← hn] at hfew
  obtain ⟨m, hm⟩ : ∃ m, m = 2 + 2 * n := ⟨_, rfl⟩
  have hsrc0 : Hid (∀ V, Below w.heap.size w V → Reads V (some ⟨b, off, none⟩) (zs.take m)) := fun V hV => by
    have h1 := (HR.out.below hV (Nat.le_refl _)).cell 0 m (by omega)
    rwa [Nat.add_zero, List.drop_zero] at h1
  have htl : (zs.take m).length = m := by rw [List.length_take]; omega
  have HTL : Hid ((zs.take m).length = m) := htl
  have HM0 : Hid (cmM zs 0 = splice (filled 0 0) 0 (zs.take m)) := by show _ = _; simp only [cmM]; rw [← hn, ← hm]
  have hm64 : m ≤ 64 := by omega
  have i1 : (2 : Int) + 2 * (n : Int) ≤ (c : Int) := by omega
  have i2 : ((2 : Int) + 2 * (n : Int)).toNat = m := by omega
  clear htl hsum hn hr hm
  go_enter Try.func138, Try.ntmps138
  go_wp2_with fail
  refine (l2Count_any (some ⟨b, off, none⟩) zs c _ HR.out h.pg).mono ?_
  rintro e w' ⟨rfl, hw'⟩
  subst w'
  rw [HN.out]
  go_upto_region 3 with (at_make; refine wpList_make_full _ rfl _ _ 22 rfl w.heap.size 5 i0 (.int .u8 0) 1 Try.underlying22 hi hz0 hz1 .i64 .i64 _ _ 64 rfl rfl rfl rfl ?c1 ?c2 (Nat.le_refl _) ?_)
  case c1 => rw [hz2]; omega
  case c2 => unfold maxLen; omega
  intro w1 hown hg
  have hB : Below w.heap.size w w1 := Below.grown (Below.refl _ _) hg (Nat.le_refl _) (fun k hk => by cases hk)
  have hS0 : Sl64 w1 w.heap.size (filled 0 0) := by
    rcases hown.2 with ⟨_, h0⟩ | ⟨g, cap, cur, hv, hg0, hgr, hcap, _, _, htk⟩
    · cases h0
    · simp only [Value.slice.injEq, Option.some.injEq, Addr.mk.injEq, and_true, true_and] at hv
      obtain ⟨rfl, rfl⟩ := hv
      refine ⟨rfl, cur.toList.drop (64 * 1), ?_⟩
      have e1 : (filled 0 0).map (Value.int .u8) = (madeCells #[Value.int .u8 0] 64).toList := by kernel_rfl
      rw [e1, ← htk, List.take_append_drop]
      exact hgr
  clear hown hg hi hz0 hz1 hz2
  have hlt1 := hS0.lt
  obtain ⟨g, hgv⟩ : ∃ g, g = w.heap.size := ⟨_, rfl⟩
  have hinf : (Try.prog.info? 5).map (·.size) = some 1 := by kernel_rfl
  obtain ⟨tl, ht⟩ := hS0.row
  have hput := hS0.put 0 (zs.take m) (by rw [HTL.out]; omega) tl ht
  have hsrc := reads_src (hsrc0.out _ hB)
  have hmin : ((zs.take m).map (Value.int .u8)).length = Nat.min m 64 := by rw [List.length_map, HTL.out]; show m = min m 64; omega
  have hfit : 0 + ((zs.take m).map (Value.int .u8)).length ≤ ((filled 0 0).map (Value.int .u8) ++ tl).toArray.size := by rw [List.length_map, HTL.out]; simp [filled]; omega
  have hone : ∀ v ∈ (zs.take m).map (Value.int .u8), v.oneCell' = true := fun v hv => by
    rw [List.mem_map] at hv
    obtain ⟨z, _, rfl⟩ := hv
    rfl
  have HSrc : Hid (∀ j u, ((zs.take m).map (Value.int .u8))[j]? = some u → w1.cell? ((⟨b, off, none⟩ : Addr).add j) = some u) := hsrc
  have HMin : Hid (((zs.take m).map (Value.int .u8)).length = Nat.min m 64) := hmin
  have HFit : Hid (0 + ((zs.take m).map (Value.int .u8)).length ≤ ((filled 0 0).map (Value.int .u8) ++ tl).toArray.size) := hfit
  have HOne : Hid (∀ v ∈ (zs.take m).map (Value.int .u8), v.oneCell' = true) := hone
  have HT : Hid (w1.heap[w.heap.size]? = some (.cells ((filled 0 0).map (Value.int .u8) ++ tl).toArray 5)) := ht
  have HPut : Hid (Sl64 (w1.setRow w.heap.size (((filled 0 0).map (Value.int .u8) ++ tl).toArray.toList.take 0 ++ (zs.take m).map (Value.int .u8) ++ ((filled 0 0).map (Value.int .u8) ++ tl).toArray.toList.drop (0 + ((zs.take m).map (Value.int .u8)).length)).toArray) w.heap.size (splice (filled 0 0) 0 (zs.take m))) := hput
  clear hsrc hmin hfit hone ht hput hS0
  go_upto_region 3 with (fail)
  go_upto_region 4 with (refine wpList_copy_own rfl _ _ 22 22 rfl 5 Try.underlying22 hinf w.heap.size 0 64 64 ⟨b, off, none⟩ m c rfl rfl _ 5 HT.out ((zs.take m).map (Value.int .u8)) HMin.out HSrc.out HFit.out HOne.out ?_)
  rw [← List.append_assoc]
  have hP := HPut.out
  rw [← HM0.out] at hP
  have htP : ∀ cs', Turned w.heap.size (w.heap.size + 1) w1 (w1.setRow w.heap.size cs') := fun cs' => ⟨rfl, rfl, rfl, by rw [setRow_size]; exact Nat.le_refl _, fun k hk hn => setRow_other _ _ k _ (by omega)⟩
  have htP := htP (((filled 0 0).map (Value.int .u8) ++ tl).toArray.toList.take 0 ++ (zs.take m).map (Value.int .u8) ++ ((filled 0 0).map (Value.int .u8) ++ tl).toArray.toList.drop (0 + ((zs.take m).map (Value.int .u8)).length)).toArray
  generalize hV : w1.setRow w.heap.size _ = V at hP htP ⊢
  have g0 : Below w.heap.size w V := hB.trans (htP.toBelow hB.size (Nat.le_refl _))
  clear hV HPut HT HFit HSrc HMin HOne htP hB
  go_wp2_with fail
  go_loopw [6, 5] (fun i at_ wr => ∃ k : Nat, k ≤ n ∧ i = .int .i64 k ∧ at_ = .int .i64 ((64 - lens zs k : Nat) : Int) ∧ Sl64 wr w.heap.size (cmM zs k) ∧ Below w.heap.size w wr) (fun i _ _ => n - (intOf i).toNat)
  case atStart => exact ⟨0, Nat.zero_le _, rfl, rfl, hP, g0⟩
  case round =>
    obtain ⟨k, hk, rfl, rfl, hS, g⟩ := hrel
    clear hP g0
    by_cases hlt2 : k < n
    · have hkn : (k : Int) < (n : Int) := by omega
      go_wp2_with fail
      refine (l2Size_any (some ⟨b, off, none⟩) zs c k _ (HR.out.below g (Nat.le_refl _)) h.pg (by omega)).mono ?_
      rintro e w' ⟨rfl, hw'⟩
      subst w'
      obtain ⟨l, hl⟩ : ∃ l, l = nb zs (3 + 2 * k) := ⟨_, rfl⟩
      have hplk := hplace.out k hlt2
      have hlk := hlens.out (k + 1) (by omega)
      have hlk1 : lens zs (k + 1) = lens zs k + l := by rw [hl]; rfl
      have hclk := hcl0.out k hlt2
      rw [← hl] at hplk hclk
      have HEmp : Hid (empB zs k = (nb zs (2 + 2 * k) == 0 && l == 0)) := by show _ = _; unfold empB; rw [← hl]
      have HL : Hid (nb zs (3 + 2 * k) = l) := hl.symm
      rw [← hl]
      by_cases hl0 : l = 0
      · have HE : Hid (cmM zs (k + 1) = cmM zs k ∧ lens zs (k + 1) = lens zs k) := by
          refine ⟨?_, by omega⟩
          simp only [cmM]
          rw [if_pos (by rw [HEmp.out]; simp; omega)]
        clear hplk hlk hlk1 hclk HEmp hl HL
        subst hl0
        go_wp2_with fail
        go_roundw
        case rel => exact ⟨k + 1, by omega, by go_num, by rw [HE.out.2], by rw [HE.out.1]; exact hS, g⟩
        case measure => simp [intOf]; omega
      · have hem : empB zs k = false := by rw [HEmp.out]; simp; omega
        obtain ⟨p, hp⟩ : ∃ p, p = 64 - lens zs (k + 1) := ⟨_, rfl⟩
        obtain ⟨L, hL⟩ : ∃ L, L = 64 - lens zs k := ⟨_, rfl⟩
        have hLp : L = p + l := by omega
        have HE : Hid (cmM zs (k + 1) = spanSet (splice (cmM zs k) p (cellOf zs k)) k p l) := by
          show _ = _
          simp only [cmM]
          rw [if_neg (by rw [hem]; simp), ← hp, HL.out]
        have HP : Hid (64 - lens zs (k + 1) = p) := hp.symm
        have dl : ((l : Int) == 0) = false := by simp; omega
        have hl1 : 1 ≤ l := by omega
        have hp64 : p + l ≤ 64 := by omega
        rw [← hL]
        have HLp : Hid (L = p + l) := hLp
        subst hLp
        have HCL : Hid ((cellOf zs k).length = l) := hclk
        clear hplk hlk hlk1 hclk HEmp hl hL hp
        go_wp2_with fail
        refine (l2Cell_any (some ⟨b, off, none⟩) zs c k _ (HR.out.below g (Nat.le_refl _)) h hc (by rw [HN.out]; exact hlt2) hem).mono ?_
        rintro e w2 ⟨a2, d2, rfl, g2, y2⟩
        rw [HL.out]
        have hS2 := hS.grown g2
        have g : Below w.heap.size w w2 := g.trans (g2.mono g.size)
        clear g2 hS hem
        obtain ⟨sb, so, rfl⟩ : ∃ sb so, a2 = some ⟨sb, so, none⟩ := by
          rcases y2 with h0 | ⟨sb, so, hb, _⟩
          · have := HCL.out; rw [h0] at this; simp at this; omega
          · exact ⟨sb, so, hb⟩
        have hr2 := y2.reads
        clear y2
        have hsub : (p : Int) + (l : Int) - (l : Int) = (p : Int) := by omega
        go_wp2_with fail
        refine (l2Stand_any w.heap.size 64 k p l sb so d2 _ (cellOf zs k) _ hS2 (Nat.le_refl _) HCL.out hl1 hp64 (by omega) hr2).mono ?_
        rintro e w3 ⟨rfl, t3, hS3⟩
        have g : Below w.heap.size w w3 := g.trans (t3.toBelow g.size (Nat.le_refl _))
        have HS3 : Hid (Sl64 w3 w.heap.size (cmM zs (k + 1))) := by show Sl64 _ _ _; rw [HE.out]; exact hS3
        clear t3 hS3 hS2 hr2
        go_wp2_with fail
        go_roundw
        case rel => exact ⟨k + 1, by omega, by go_num, by rw [HP.out], HS3.out, g⟩
        case measure => simp [intOf]; omega
    · have e : k = n := by omega
      subst e
      have hlk := hlens.out k (Nat.le_refl _)
      obtain ⟨L, hL⟩ : ∃ L, L = 64 - lens zs k := ⟨_, rfl⟩
      have HL : Hid (64 - lens zs k = L) := hL.symm
      have hL64 : L ≤ 64 := by omega
      rw [← hL]
      clear hL hlk
      have c1 := hS.cell 1 (by omega)
      have f1 := hS.frozen 1
      have hLm : (L : Int) % 256 = L := by omega
      go_wp2_with fail
      go_ret
      refine ⟨w.heap.size, rfl, g.setCell (by simp) _, Nat.le_refl _, ?_⟩
      rw [HN.out, ← HEnd.out, HL.out]
      exact hS.set 1 (by omega) _

end Go.Proofs.Ytcjkjenebnodbaa.Dr

/-
  The contract of the model's l2Right: a page without a fault, whatever is drawn.
-/
namespace Go.Proofs.Ytcjkjenebnodbaa.Dr
open Go.RowKit
set_option linter.unusedVariables false

/-- A page without a fault in a new row. -/
def PgAt (base : Nat) (w : World) (v : Value) : Prop := ∃ g dd ys, v = .slice (some ⟨g, 0, none⟩) 64 dd ∧ 64 ≤ dd ∧ base ≤ g ∧ BytesIn base w.heap.size w (some ⟨g, 0, none⟩) ys ∧ Fine ys

theorem PgAt.turned {base lo hi : Nat} {w w' : World} {v : Value} (h : PgAt base w v) (ht : Turned lo hi w w') (hb : hi ≤ base) : PgAt base w' v := by
  obtain ⟨g, dd, ys, hv, h1, h2, h3, h4⟩ := h
  exact ⟨g, dd, ys, hv, h1, h2, (h3.turned ht (.inr hb)).mono (Nat.le_refl _) ht.size, h4⟩

theorem PgAt.of {base g dd : Nat} {w : World} {ys : List Int} (h1 : 64 ≤ dd) (h2 : base ≤ g) (hA : Sl64 w g ys) (hF : Fine ys) : PgAt base w (.slice (some ⟨g, 0, none⟩) 64 dd) := ⟨g, dd, ys, rfl, h1, h2, hA.bytes h2 hA.lt, hF⟩

theorem Gath.form {base k : Nat} {w : World} {v : Value} (h : Gath base w v k) (h1 : 1 ≤ k) : ∃ x cap ys, v = .slice (some ⟨x, 0, none⟩) k cap ∧ List.length ys = k ∧ (∀ z ∈ ys, 0 ≤ z ∧ z ≤ 255) ∧ BytesIn base w.heap.size w (some ⟨x, 0, none⟩) ys := by
  obtain ⟨ys, yl, yb, hown⟩ := h
  obtain ⟨x, cap, rfl⟩ := Joins.ownsRow_form hown (by omega)
  have hlt := hown.lt x rfl
  refine ⟨x, cap, ys, rfl, yl, yb, .inr ⟨x, 0, rfl, hlt.1, hlt.2, fun i hi => ?_, fun i hi => ?_⟩⟩
  · rw [Nat.zero_add, hown.cellAt i (by omega)]
    simp [List.getElem?_eq_getElem hi, List.getD]
  · rw [Nat.zero_add]; exact hown.frozenAt i

theorem fine_new (f : Int) (h0 : 0 ≤ f) (h1 : f ≤ 255) : Fine (newBytes f) := by
  have e0 : nb (newBytes f) 0 = 0 := rfl
  have e1 : nb (newBytes f) 1 = 64 := rfl
  refine Dirs.fine ⟨⟨by simp [newBytes], fun z hz => ?_⟩, by rw [e0]; omega, by rw [e0, e1]; omega, by rw [e1]; omega, fun j hj => absurd hj (by rw [e0]; omega), fun i k hk hi => absurd hi (by rw [e0]; omega), fun h0 => absurd h0 (by rw [e0]; omega)⟩
  simp only [newBytes, List.mem_cons, List.mem_replicate] at hz
  omega

end Go.Proofs.Ytcjkjenebnodbaa.Dr

/-
  The contract of the model's l2Right: a page without a fault, whatever is drawn.
-/
namespace Go.Proofs.Ytcjkjenebnodbaa.Dr
open Go.RowKit
set_option linter.unusedVariables false

theorem wf6 (q : Int) (h0 : 0 ≤ q) (h1 : q < 6) : (Lit.int .i64 q).wf = true := by
  obtain rfl | rfl | rfl | rfl | rfl | rfl : q = 0 ∨ q = 1 ∨ q = 2 ∨ q = 3 ∨ q = 4 ∨ q = 5 := by omega
  all_goals rfl

/-- What a round of l2Right keeps. -/
structure RgS (w : World) (b : Nat) (a : Option Addr) (n c : Nat) (zs : List Int) (lim : Int) (wr : World) (v : Value) : Prop where
  pg : PgAt w.heap.size wr v
  tn : Turned b (b + 1) w wr
  src : ∃ j, j ≤ lim ∧ SrcAt wr b a n c zs j

theorem RgS.more {w : World} {b : Nat} {a : Option Addr} {n c : Nat} {zs : List Int} {lim lim' : Int} {wr : World} {v : Value} (h : RgS w b a n c zs lim wr v) (hl : lim ≤ lim') : RgS w b a n c zs lim' wr v :=
  ⟨h.pg, h.tn, by obtain ⟨j, hj, hS⟩ := h.src; exact ⟨j, by omega, hS⟩⟩

set_option maxHeartbeats 8000000 in
theorem l2Right_any (b : Nat) (a : Option Addr) (n c : Nat) (zs : List Int) (i : Int) (w : World) (h : SrcAt w b a n c zs i) (i9 : i ≤ 99000) :
    Calls Try.prog 129 #[.pointer (some ⟨b, 0, none⟩)] w fun e w' => ∃ v, e = .returned v ∧ RgS w b a n c zs (i + 300) w' v := by
  have hbl := h.lt
  go_enter Try.func129, Try.ntmps129
  go_wp2_with fail
  refine (l1Pick_any b w.heap.size 3 a n c zs [0, 0, 7] i _ (h.below (by go_grown)) (by omega) ?_ rfl (by omega) (by omega) hbl).mono ?_
  · intro k hk
    match k, hk with
    | 0, _ => simp [go_sem]
    | 1, _ => simp [go_sem]
    | 2, _ => simp [go_sem]
  rintro e w1 ⟨⟨j, hj, rfl⟩, ht, hS⟩
  have hf : 0 ≤ ([0, 0, 7] : List Int).getD j 0 ∧ ([0, 0, 7] : List Int).getD j 0 ≤ 255 := by
    match j, hj with
    | 0, _ => simp
    | 1, _ => simp
    | 2, _ => simp
  generalize ([0, 0, 7] : List Int).getD j 0 = f at hf
  obtain ⟨f0, f1⟩ := hf
  have hT : Turned b (b + 1) w w1 := (Turned.ofBelow (by go_grown)).trans ht
  clear ht hj
  go_wp2_with fail
  refine (l2New_any f _).mono ?_
  rintro e w2 ⟨rfl, gB, hN⟩
  have hP : PgAt w.heap.size w2 (.slice (some ⟨w1.heap.size, 0, none⟩) 64 64) := ⟨_, _, _, rfl, Nat.le_refl _, hT.size, hN.mono hT.size (Nat.le_refl _), fine_new f f0 f1⟩
  have hS := hS.below gB
  have hT := hT.trans (Turned.ofBelow gB)
  clear gB hN
  go_wp2_with fail
  refine (l1Next_any b a n c zs _ 14 _ hS (by omega) (by omega) (by omega)).mono ?_
  rintro e w3 ⟨⟨r, rfl, r0, r1⟩, ht, hS⟩
  obtain ⟨m, rfl⟩ : ∃ m : Nat, r = m := ⟨r.toNat, by omega⟩
  have hR0 : RgS w b a n c zs (i + 2) w3 (.slice (some ⟨w1.heap.size, 0, none⟩) 64 64) := ⟨hP.turned ht (by omega), hT.trans ht, ⟨_, by omega, hS⟩⟩
  clear ht hS hT hP
  go_wp2_with fail
  go_loopw [4, 3] (fun kk vv wr => ∃ k : Nat, k ≤ m ∧ kk = .int .i64 k ∧ RgS w b a n c zs (i + 2 + 20 * ((m : Int) - k)) wr vv) (fun kk _ _ => (intOf kk).toNat)
  case atStart => exact ⟨m, Nat.le_refl _, rfl, hR0.more (by omega)⟩
  case round =>
    obtain ⟨k, hk, rfl, hR⟩ := hrel
    clear hR0
    cases k with
    | zero =>
      go_wp2_with fail
      go_ret
      exact ⟨_, rfl, hR.more (by omega)⟩
    | succ k =>
      obtain ⟨⟨g, dd, ys, rfl, hdd, hg, hY, hF⟩, hT, ⟨j, hj, hS⟩⟩ := hR
      have hk0 : (0 : Int) < ((k + 1 : Nat) : Int) := by omega
      go_wp2_with fail
      refine (l1Next_any b a n c zs j 14 _ hS (by omega) (by omega) (by omega)).mono ?_
      rintro e x1 ⟨⟨r, rfl, r0, r1⟩, ht, hS⟩
      obtain ⟨r, rfl⟩ : ∃ q : Nat, r = q := ⟨r.toNat, by omega⟩
      have hY := (hY.turned ht (.inr (by omega))).mono (Nat.le_refl _) ht.size
      have hT := hT.trans ht
      have hszT := hT.size
      clear ht
      go_wp2_with fail
      rw [show (1 : Int) + (r : Int) = ((1 + r : Nat) : Int) by omega]
      refine (l1Some_any b a n c zs (j + 1) (1 + r) _ hS (by omega) (by omega)).mono ?_
      rintro e x2 ⟨vc, rfl, hG, ht, hS⟩
      obtain ⟨xb, xc, cs, rfl, hcl, hcb, hcs⟩ := hG.form (by omega)
      have hx1 := hT.size
      clear hG
      have hY := (hY.turned ht (.inr (by omega))).mono (Nat.le_refl _) ht.size
      have hT := hT.trans ht
      have hszT := hT.size
      clear ht
      go_wp2_with fail
      refine (l1Next_any b a n c zs _ 5 _ hS (by omega) (by omega) (by omega)).mono ?_
      rintro e x3 ⟨⟨ch, rfl, h0, h5⟩, ht, hS⟩
      have hY := (hY.turned ht (.inr (by omega))).mono (Nat.le_refl _) ht.size
      have hcs := hcs.turned ht (.inr (by omega))
      have hT := hT.trans ht
      have hszT := hT.size
      clear ht
      have hcase : ch = 0 ∨ ch = 1 ∨ ch = 2 ∨ 3 ≤ ch := by omega
      rcases hcase with rfl | rfl | rfl | hch
      ·
        go_wp2_with fail
        refine (l1Next_any b a n c zs _ 6 _ hS (by omega) (by omega) (by omega)).mono ?_
        rintro e x4 ⟨⟨q, rfl, q0, q6⟩, ht, hS⟩
        have hY := (hY.turned ht (.inr (by omega))).mono (Nat.le_refl _) ht.size
        have hcs := hcs.turned ht (.inr (by omega))
        have hT := hT.trans ht
        have hszT := hT.size
        clear ht
        go_wp2_with fail
        refine (l2Has_any (some ⟨g, 0, none⟩) ys dd q _ hY.reads hF (wf6 q q0 q6)).mono ?_
        rintro e w' ⟨rfl, hw'⟩
        subst w'
        cases hh : hasC ys q
        ·
          go_wp2_with fail
          go_roundw
          case rel => exact ⟨k, by omega, by go_num, ⟨⟨g, dd, ys, rfl, hdd, hg, hY, hF⟩, hT, ⟨_, by omega, hS⟩⟩⟩
          case measure => simp [intOf]
        · obtain ⟨s, rfl, hs, he⟩ := hasC_slot hh
          go_wp2_with fail
          refine (l2Drop_any (some ⟨g, 0, none⟩) ys dd s _ hY.reads hF hs).mono ?_
          rintro e x5 ⟨gB, g', dd', ys', rfl, hdd', hg', hA', hF'⟩
          have hP := PgAt.of (base := w.heap.size) hdd' (by omega) hA' hF'
          have hT := hT.trans (Turned.ofBelow gB)
          have hS := hS.below gB
          clear gB hY hcs
          go_wp2_with fail
          go_roundw
          case rel => exact ⟨k, by omega, by go_num, ⟨hP, hT, ⟨_, by omega, hS⟩⟩⟩
          case measure => simp [intOf]
      ·
        go_wp2_with fail
        refine (l1Next_any b a n c zs _ 6 _ hS (by omega) (by omega) (by omega)).mono ?_
        rintro e x4 ⟨⟨q, rfl, q0, q6⟩, ht, hS⟩
        have hY := (hY.turned ht (.inr (by omega))).mono (Nat.le_refl _) ht.size
        have hcs := hcs.turned ht (.inr (by omega))
        have hT := hT.trans ht
        have hszT := hT.size
        clear ht
        go_wp2_with fail
        refine (l2Has_any (some ⟨g, 0, none⟩) ys dd q _ hY.reads hF (wf6 q q0 q6)).mono ?_
        rintro e w' ⟨rfl, hw'⟩
        subst w'
        cases hh : hasC ys q
        ·
          go_wp2_with fail
          go_roundw
          case rel => exact ⟨k, by omega, by go_num, ⟨⟨g, dd, ys, rfl, hdd, hg, hY, hF⟩, hT, ⟨_, by omega, hS⟩⟩⟩
          case measure => simp [intOf]
        · obtain ⟨s, rfl, hs, he⟩ := hasC_slot hh
          go_wp2_with fail
          refine (l2Set_any (some ⟨g, 0, none⟩) ys cs dd s xb 0 (1 + r) xc _ hY.reads hF hs he hcl (by omega) (by omega) hcb hcs.reads).mono ?_
          rintro e x5 ⟨gB, ⟨q', hq', rfl⟩ | ⟨g', dd', ys', rfl, hdd', hg', hA', hF'⟩⟩
          · have hT := hT.trans (Turned.ofBelow gB)
            have hS := hS.below gB
            have hY := (hY.turned (lo := 0) (hi := 0) (Turned.ofBelow gB) (.inr (Nat.zero_le _))).mono (Nat.le_refl _) gB.size
            have dq : (q' == 0) = false := by simpa using hq'
            clear gB hcs
            go_wp2_with fail
            go_roundw
            case rel => exact ⟨k, by omega, by go_num, ⟨⟨g, dd, ys, rfl, hdd, hg, hY, hF⟩, hT, ⟨_, by omega, hS⟩⟩⟩
            case measure => simp [intOf]
          · have hP := PgAt.of (base := w.heap.size) hdd' (by omega) hA' hF'
            have hT := hT.trans (Turned.ofBelow gB)
            have hS := hS.below gB
            clear gB hY hcs
            go_wp2_with fail
            go_roundw
            case rel => exact ⟨k, by omega, by go_num, ⟨hP, hT, ⟨_, by omega, hS⟩⟩⟩
            case measure => simp [intOf]
      ·
        go_wp2_with fail
        refine (l1Chance_any b a n c zs _ 3 _ hS (by omega) (by omega) (by omega)).mono ?_
        rintro e x4 ⟨⟨q, rfl⟩, ht, hS⟩
        have hY := (hY.turned ht (.inr (by omega))).mono (Nat.le_refl _) ht.size
        have hcs := hcs.turned ht (.inr (by omega))
        have hT := hT.trans ht
        have hszT := hT.size
        clear ht
        cases q
        ·
          go_wp2_with fail
          go_roundw
          case rel => exact ⟨k, by omega, by go_num, ⟨⟨g, dd, ys, rfl, hdd, hg, hY, hF⟩, hT, ⟨_, by omega, hS⟩⟩⟩
          case measure => simp [intOf]
        ·
          go_wp2_with fail
          refine (l2Compact_any (some ⟨g, 0, none⟩) ys dd _ hY.reads hF hdd).mono ?_
          rintro e x5 ⟨g', rfl, gB, hg', hA'⟩
          have hP := PgAt.of (base := w.heap.size) (Nat.le_refl 64) (by omega) hA' (fine_compact hF)
          have hT := hT.trans (Turned.ofBelow gB)
          have hS := hS.below gB
          clear gB hY hcs
          go_wp2_with fail
          go_roundw
          case rel => exact ⟨k, by omega, by go_num, ⟨hP, hT, ⟨_, by omega, hS⟩⟩⟩
          case measure => simp [intOf]
      · have d0 : (ch == 0) = false := by simp; omega
        have d1 : (ch == 1) = false := by simp; omega
        have d2 : (ch == 2) = false := by simp; omega
        go_wp2_with fail
        refine (l2Put_or (some ⟨g, 0, none⟩) ys cs dd xb 0 (1 + r) xc _ hY.reads hF hcl (by omega) (by omega) hcb hcs.reads).mono ?_
        rintro e x5 ⟨gB, ⟨q', hq', rfl⟩ | ⟨g', dd', ys', s', rfl, hdd', hg', hA', hF'⟩⟩
        · have hT := hT.trans (Turned.ofBelow gB)
          have hS := hS.below gB
          have hY := (hY.turned (lo := 0) (hi := 0) (Turned.ofBelow gB) (.inr (Nat.zero_le _))).mono (Nat.le_refl _) gB.size
          have dq : (q' == 0) = false := by simpa using hq'
          clear gB hcs
          go_wp2_with fail
          go_roundw
          case rel => exact ⟨k, by omega, by go_num, ⟨⟨g, dd, ys, rfl, hdd, hg, hY, hF⟩, hT, ⟨_, by omega, hS⟩⟩⟩
          case measure => simp [intOf]
        · have hP := PgAt.of (base := w.heap.size) hdd' (by omega) hA' hF'
          have hT := hT.trans (Turned.ofBelow gB)
          have hS := hS.below gB
          clear gB hY hcs
          go_wp2_with fail
          go_roundw
          case rel => exact ⟨k, by omega, by go_num, ⟨hP, hT, ⟨_, by omega, hS⟩⟩⟩
          case measure => simp [intOf]

end Go.Proofs.Ytcjkjenebnodbaa.Dr
