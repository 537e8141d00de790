/-
  The contract of the program's CompactPage.
-/
import Derived.Test.YtdgonddimenmdaaGreatQLpo
import Derived.Test.YtdgonddimenmdaaGreatQSlo
import Derived.Test.YtdgonddimenmdaaGreatQLpq
import Derived.Test.YtdgonddimenmdaaGreatQRby
import Derived.Test.YtdgonddimenmdaaGreatQDraw
import Derived.Lib.SmallJoins
import Derived.Test.YtdgonddimenmdaaGreatQApn

namespace Go.Proofs.YtdgonddimenmdaaGreat
set_option maxRecDepth 20000
open Go.RowKit
set_option linter.unusedVariables false

/-- What CompactPage answers: its code, its page. -/
def cqQ (zs : List Int) : Int := fltOf zs
def cqB (zs : List Int) : List Int := if fltOf zs = 0 then cpP zs (nb zs 0) else []

/-- What the loop carries beside the packed page. -/
structure CpS (w : World) (b : Nat) (ys : List Int) (V : World) : Prop where
  a : Arr V b ys
  x : PRes V w.heap.size 0 0 (.slice none 0 0)
  g : Below w.heap.size w V
theorem CpS.below {w : World} {b : Nat} {ys : List Int} {W V : World} (h : CpS w b ys W) (hb : Below W.heap.size W V) : CpS w b ys V := ⟨h.a.grown hb, h.x.grown hb, h.g.trans (hb.mono h.g.size)⟩
theorem CpS.turned {w : World} {b pb : Nat} {ys : List Int} {W V : World} (h : CpS w b ys W) (ht : Turned pb (pb + 1) W V) (hn : w.heap.size < b ∧ b < pb) : CpS w b ys V := ⟨h.a.turned ht (.inl hn.2), h.x.turned ht (.inl (by omega)), h.g.trans (ht.toBelow h.g.size (by omega))⟩
theorem CpS.rd {w : World} {b k : Nat} {ys : List Int} {W : World} (h : CpS w b ys W) (p l : Nat) (e : cellOf ys k = (ys.drop p).take l) (hl : p + l ≤ 64) : Reads W (some ⟨b, p, none⟩) (cellOf ys k) := by
  rw [e]
  exact h.a.cellReads p l hl
theorem cpKeep {w : World} {b y : Nat} {p l : Int} {ys : List Int} {W V : World} (h : W.cell? ⟨y, 0, none⟩ = some (.int .u64 p) ∧ W.cell? ⟨y, 1, none⟩ = some (.int .u64 l) ∧ CpS w b ys W) (hb : Below W.heap.size W V) :
    V.cell? ⟨y, 0, none⟩ = some (.int .u64 p) ∧ V.cell? ⟨y, 1, none⟩ = some (.int .u64 l) ∧ CpS w b ys V :=
  ⟨(hb.cell (World.block_lt_of_cell? W _ h.1)).trans h.1, (hb.cell (World.block_lt_of_cell? W _ h.2.1)).trans h.2.1, h.2.2.below hb⟩
theorem cpTurn {w : World} {b y pb : Nat} {p l : Int} {ys : List Int} {W V : World} (h : W.cell? ⟨y, 0, none⟩ = some (.int .u64 p) ∧ W.cell? ⟨y, 1, none⟩ = some (.int .u64 l) ∧ CpS w b ys W) (ht : Turned pb (pb + 1) W V) (hy : pb < y) (hn : w.heap.size < b ∧ b < pb) :
    V.cell? ⟨y, 0, none⟩ = some (.int .u64 p) ∧ V.cell? ⟨y, 1, none⟩ = some (.int .u64 l) ∧ CpS w b ys V :=
  ⟨ht.cell h.1 (by simp only; omega), ht.cell h.2.1 (by simp only; omega), h.2.2.turned ht hn⟩

end Go.Proofs.YtdgonddimenmdaaGreat

/-
  The contracts of the model's l2Compact and CompactPage.
-/
namespace Go.Proofs.YtdgonddimenmdaaGreat
set_option maxRecDepth 20000
open Go.RowKit
set_option linter.unusedVariables false

theorem Sl64.turned {w w' : World} {g lo hi : Nat} {zs : List Int} (h : Sl64 w g zs) (ht : Turned lo hi w w') (hn : g < lo ∨ hi ≤ g) : Sl64 w' g zs := ⟨h.len, by obtain ⟨tl, hh⟩ := h.row; exact ⟨tl, (ht.block g h.lt (by omega)).trans hh⟩⟩

set_option maxHeartbeats 4000000 in
theorem l2Compact_any (a : Option Addr) (zs : List Int) (c : Nat) (w : World) (hr : Reads w a zs) (h : Fine zs) (hc : 64 ≤ c) :
    Calls Tryz.prog 91 #[.slice a 64 c] w fun e w' => ∃ g, e = .returned (.slice (some ⟨g, 0, none⟩) 64 64) ∧ Below w.heap.size w w' ∧ w.heap.size ≤ g ∧ Sl64 w' g (cpP zs (nb zs 0)) := by
  obtain ⟨i0, hi, hz0, hz1, hz2⟩ := info5
  have hfew := h.few
  have hsum := h.sum
  have hlz := h.pg.len
  have HR : Hid (Reads w a zs) := hr
  obtain ⟨b, off, rfl⟩ : ∃ b off, a = some ⟨b, off, none⟩ := by
    rcases hr with hr | ⟨b, off, ha, _⟩
    · rw [hr] at hlz; simp at hlz
    · exact ⟨b, off, ha⟩
  obtain ⟨n, hn⟩ : ∃ n, n = nb zs 0 := ⟨_, rfl⟩
  have HN : Hid (nb zs 0 = n) := hn.symm
  have hcl0 : Hid (∀ k, k < n → (cellOf zs k).length = nb zs (3 + 2 * k)) := fun k hk => cellOf_length h k (by rw [← hn]; exact hk)
  have hplace : Hid (∀ k, k < n → (nb zs (2 + 2 * k) = 0 ∧ nb zs (3 + 2 * k) = 0) ∨ (nb zs (2 + 2 * k) ≠ 0 ∧ nb zs (3 + 2 * k) ≠ 0 ∧ nb zs 1 ≤ nb zs (2 + 2 * k) ∧ nb zs (2 + 2 * k) + nb zs (3 + 2 * k) ≤ 64)) := fun k hk => h.place k (by rw [← hn]; exact hk)
  have hlens : Hid (∀ k, k ≤ n → lens zs k ≤ 62) := fun k hk => by
    have := lens_le zs k (n - k)
    rw [show k + (n - k) = nb zs 0 by omega] at this
    omega
  have HEnd : Hid ((cmM zs n).set 1 ((64 - lens zs n : Nat) : Int) = cpP zs n) := by show _ = _; rw [hn]; exact both_end h
  rw [← hn] at hfew
  obtain ⟨m, hm⟩ : ∃ m, m = 2 + 2 * n := ⟨_, rfl⟩
  have hsrc0 : Hid (∀ V, Below w.heap.size w V → Reads V (some ⟨b, off, none⟩) (zs.take m)) := fun V hV => by
    have h1 := (HR.out.below hV (Nat.le_refl _)).cell 0 m (by omega)
    rwa [Nat.add_zero, List.drop_zero] at h1
  have htl : (zs.take m).length = m := by rw [List.length_take]; omega
  have HTL : Hid ((zs.take m).length = m) := htl
  have HM0 : Hid (cmM zs 0 = splice (filled 0 0) 0 (zs.take m)) := by show _ = _; simp only [cmM]; rw [← hn, ← hm]
  have hm64 : m ≤ 64 := by omega
  have i1 : (2 : Int) + 2 * (n : Int) ≤ (c : Int) := by omega
  have i2 : ((2 : Int) + 2 * (n : Int)).toNat = m := by omega
  clear htl hsum hn hr hm
  go_enter Tryz.func91, Tryz.ntmps91
  go_wp2_with fail
  refine (l2Count_any (some ⟨b, off, none⟩) zs c _ HR.out h.pg).mono ?_
  rintro e w' ⟨rfl, hw'⟩
  subst w'
  rw [HN.out]
  go_upto_region 3 with (at_make; refine wpList_make_full _ rfl _ _ 22 rfl w.heap.size 5 i0 (.int .u8 0) 1 Tryz.underlying22 hi hz0 hz1 .i64 .i64 _ _ 64 rfl rfl rfl rfl ?c1 ?c2 (Nat.le_refl _) ?_)
  case c1 => rw [hz2]; omega
  case c2 => unfold maxLen; omega
  intro w1 hown hg
  have hB : Below w.heap.size w w1 := Below.grown (Below.refl _ _) hg (Nat.le_refl _) (fun k hk => by cases hk)
  have hS0 : Sl64 w1 w.heap.size (filled 0 0) := by
    rcases hown.2 with ⟨_, h0⟩ | ⟨g, cap, cur, hv, hg0, hgr, hcap, _, _, htk⟩
    · cases h0
    · simp only [Value.slice.injEq, Option.some.injEq, Addr.mk.injEq, and_true, true_and] at hv
      obtain ⟨rfl, rfl⟩ := hv
      refine ⟨rfl, cur.toList.drop (64 * 1), ?_⟩
      have e1 : (filled 0 0).map (Value.int .u8) = (madeCells #[Value.int .u8 0] 64).toList := by kernel_rfl
      rw [e1, ← htk, List.take_append_drop]
      exact hgr
  clear hown hg hi hz0 hz1 hz2
  have hlt1 := hS0.lt
  obtain ⟨g, hgv⟩ : ∃ g, g = w.heap.size := ⟨_, rfl⟩
  have hinf : (Tryz.prog.info? 5).map (·.size) = some 1 := by kernel_rfl
  obtain ⟨tl, ht⟩ := hS0.row
  have hput := hS0.put 0 (zs.take m) (by rw [HTL.out]; omega) tl ht
  have hsrc := reads_src (hsrc0.out _ hB)
  have hmin : ((zs.take m).map (Value.int .u8)).length = Nat.min m 64 := by rw [List.length_map, HTL.out]; show m = min m 64; omega
  have hfit : 0 + ((zs.take m).map (Value.int .u8)).length ≤ ((filled 0 0).map (Value.int .u8) ++ tl).toArray.size := by rw [List.length_map, HTL.out]; simp [filled]; omega
  have hone : ∀ v ∈ (zs.take m).map (Value.int .u8), v.oneCell' = true := fun v hv => by
    rw [List.mem_map] at hv
    obtain ⟨z, _, rfl⟩ := hv
    rfl
  have HSrc : Hid (∀ j u, ((zs.take m).map (Value.int .u8))[j]? = some u → w1.cell? ((⟨b, off, none⟩ : Addr).add j) = some u) := hsrc
  have HMin : Hid (((zs.take m).map (Value.int .u8)).length = Nat.min m 64) := hmin
  have HFit : Hid (0 + ((zs.take m).map (Value.int .u8)).length ≤ ((filled 0 0).map (Value.int .u8) ++ tl).toArray.size) := hfit
  have HOne : Hid (∀ v ∈ (zs.take m).map (Value.int .u8), v.oneCell' = true) := hone
  have HT : Hid (w1.heap[w.heap.size]? = some (.cells ((filled 0 0).map (Value.int .u8) ++ tl).toArray 5)) := ht
  have HPut : Hid (Sl64 (w1.setRow w.heap.size (((filled 0 0).map (Value.int .u8) ++ tl).toArray.toList.take 0 ++ (zs.take m).map (Value.int .u8) ++ ((filled 0 0).map (Value.int .u8) ++ tl).toArray.toList.drop (0 + ((zs.take m).map (Value.int .u8)).length)).toArray) w.heap.size (splice (filled 0 0) 0 (zs.take m))) := hput
  clear hsrc hmin hfit hone ht hput hS0
  go_upto_region 3 with (fail)
  go_upto_region 4 with (refine wpList_copy_own rfl _ _ 22 22 rfl 5 Tryz.underlying22 hinf w.heap.size 0 64 64 ⟨b, off, none⟩ m c rfl rfl _ 5 HT.out ((zs.take m).map (Value.int .u8)) HMin.out HSrc.out HFit.out HOne.out ?_)
  rw [← List.append_assoc]
  have hP := HPut.out
  rw [← HM0.out] at hP
  have htP : ∀ cs', Turned w.heap.size (w.heap.size + 1) w1 (w1.setRow w.heap.size cs') := fun cs' => ⟨rfl, rfl, rfl, by rw [setRow_size]; exact Nat.le_refl _, fun k hk hn => setRow_other _ _ k _ (by omega)⟩
  have htP := htP (((filled 0 0).map (Value.int .u8) ++ tl).toArray.toList.take 0 ++ (zs.take m).map (Value.int .u8) ++ ((filled 0 0).map (Value.int .u8) ++ tl).toArray.toList.drop (0 + ((zs.take m).map (Value.int .u8)).length)).toArray
  generalize hV : w1.setRow w.heap.size _ = V at hP htP ⊢
  have g0 : Below w.heap.size w V := hB.trans (htP.toBelow hB.size (Nat.le_refl _))
  clear hV HPut HT HFit HSrc HMin HOne htP hB
  go_wp2_with fail
  go_loopw [6, 5] (fun i at_ wr => ∃ k : Nat, k ≤ n ∧ i = .int .i64 k ∧ at_ = .int .i64 ((64 - lens zs k : Nat) : Int) ∧ Sl64 wr w.heap.size (cmM zs k) ∧ Below w.heap.size w wr) (fun i _ _ => n - (intOf i).toNat)
  case atStart => exact ⟨0, Nat.zero_le _, rfl, rfl, hP, g0⟩
  case round =>
    obtain ⟨k, hk, rfl, rfl, hS, g⟩ := hrel
    clear hP g0
    by_cases hlt2 : k < n
    · have hkn : (k : Int) < (n : Int) := by omega
      go_wp2_with fail
      refine (l2Size_any (some ⟨b, off, none⟩) zs c k _ (HR.out.below g (Nat.le_refl _)) h.pg (by omega)).mono ?_
      rintro e w' ⟨rfl, hw'⟩
      subst w'
      obtain ⟨l, hl⟩ : ∃ l, l = nb zs (3 + 2 * k) := ⟨_, rfl⟩
      have hplk := hplace.out k hlt2
      have hlk := hlens.out (k + 1) (by omega)
      have hlk1 : lens zs (k + 1) = lens zs k + l := by rw [hl]; rfl
      have hclk := hcl0.out k hlt2
      rw [← hl] at hplk hclk
      have HEmp : Hid (empB zs k = (nb zs (2 + 2 * k) == 0 && l == 0)) := by show _ = _; unfold empB; rw [← hl]
      have HL : Hid (nb zs (3 + 2 * k) = l) := hl.symm
      rw [← hl]
      by_cases hl0 : l = 0
      · have HE : Hid (cmM zs (k + 1) = cmM zs k ∧ lens zs (k + 1) = lens zs k) := by
          refine ⟨?_, by omega⟩
          simp only [cmM]
          rw [if_pos (by rw [HEmp.out]; simp; omega)]
        clear hplk hlk hlk1 hclk HEmp hl HL
        subst hl0
        go_wp2_with fail
        go_roundw
        case rel => exact ⟨k + 1, by omega, by go_num, by rw [HE.out.2], by rw [HE.out.1]; exact hS, g⟩
        case measure => simp [intOf]; omega
      · have hem : empB zs k = false := by rw [HEmp.out]; simp; omega
        obtain ⟨p, hp⟩ : ∃ p, p = 64 - lens zs (k + 1) := ⟨_, rfl⟩
        obtain ⟨L, hL⟩ : ∃ L, L = 64 - lens zs k := ⟨_, rfl⟩
        have hLp : L = p + l := by omega
        have HE : Hid (cmM zs (k + 1) = spanSet (splice (cmM zs k) p (cellOf zs k)) k p l) := by
          show _ = _
          simp only [cmM]
          rw [if_neg (by rw [hem]; simp), ← hp, HL.out]
        have HP : Hid (64 - lens zs (k + 1) = p) := hp.symm
        have dl : ((l : Int) == 0) = false := by simp; omega
        have hl1 : 1 ≤ l := by omega
        have hp64 : p + l ≤ 64 := by omega
        rw [← hL]
        have HLp : Hid (L = p + l) := hLp
        subst hLp
        have HCL : Hid ((cellOf zs k).length = l) := hclk
        clear hplk hlk hlk1 hclk HEmp hl hL hp
        go_wp2_with fail
        refine (l2Cell_any (some ⟨b, off, none⟩) zs c k _ (HR.out.below g (Nat.le_refl _)) h hc (by rw [HN.out]; exact hlt2) hem).mono ?_
        rintro e w2 ⟨a2, d2, rfl, g2, y2⟩
        rw [HL.out]
        have hS2 := hS.grown g2
        have g : Below w.heap.size w w2 := g.trans (g2.mono g.size)
        clear g2 hS hem
        obtain ⟨sb, so, rfl⟩ : ∃ sb so, a2 = some ⟨sb, so, none⟩ := by
          rcases y2 with h0 | ⟨sb, so, hb, _⟩
          · have := HCL.out; rw [h0] at this; simp at this; omega
          · exact ⟨sb, so, hb⟩
        have hr2 := y2.reads
        clear y2
        have hsub : (p : Int) + (l : Int) - (l : Int) = (p : Int) := by omega
        go_wp2_with fail
        refine (l2Stand_any w.heap.size 64 k p l sb so d2 _ (cellOf zs k) _ hS2 (Nat.le_refl _) HCL.out hl1 hp64 (by omega) hr2).mono ?_
        rintro e w3 ⟨rfl, t3, hS3⟩
        have g : Below w.heap.size w w3 := g.trans (t3.toBelow g.size (Nat.le_refl _))
        have HS3 : Hid (Sl64 w3 w.heap.size (cmM zs (k + 1))) := by show Sl64 _ _ _; rw [HE.out]; exact hS3
        clear t3 hS3 hS2 hr2
        go_wp2_with fail
        go_roundw
        case rel => exact ⟨k + 1, by omega, by go_num, by rw [HP.out], HS3.out, g⟩
        case measure => simp [intOf]; omega
    · have e : k = n := by omega
      subst e
      have hlk := hlens.out k (Nat.le_refl _)
      obtain ⟨L, hL⟩ : ∃ L, L = 64 - lens zs k := ⟨_, rfl⟩
      have HL : Hid (64 - lens zs k = L) := hL.symm
      have hL64 : L ≤ 64 := by omega
      rw [← hL]
      clear hL hlk
      have c1 := hS.cell 1 (by omega)
      have f1 := hS.frozen 1
      have hLm : (L : Int) % 256 = L := by omega
      go_wp2_with fail
      go_ret
      refine ⟨w.heap.size, rfl, g.setCell (by simp) _, Nat.le_refl _, ?_⟩
      rw [HN.out, ← HEnd.out, HL.out]
      exact hS.set 1 (by omega) _

end Go.Proofs.YtdgonddimenmdaaGreat

/-
  The contract of the model's l2Right: a page without a fault, whatever is drawn.
-/
namespace Go.Proofs.YtdgonddimenmdaaGreat
set_option maxRecDepth 20000
open Go.RowKit
set_option linter.unusedVariables false

/-- A page without a fault in a new row. -/
def PgAt (base : Nat) (w : World) (v : Value) : Prop := ∃ g dd ys, v = .slice (some ⟨g, 0, none⟩) 64 dd ∧ 64 ≤ dd ∧ base ≤ g ∧ BytesIn base w.heap.size w (some ⟨g, 0, none⟩) ys ∧ Fine ys

theorem PgAt.turned {base lo hi : Nat} {w w' : World} {v : Value} (h : PgAt base w v) (ht : Turned lo hi w w') (hb : hi ≤ base) : PgAt base w' v := by
  obtain ⟨g, dd, ys, hv, h1, h2, h3, h4⟩ := h
  exact ⟨g, dd, ys, hv, h1, h2, (h3.turned ht (.inr hb)).mono (Nat.le_refl _) ht.size, h4⟩

theorem PgAt.of {base g dd : Nat} {w : World} {ys : List Int} (h1 : 64 ≤ dd) (h2 : base ≤ g) (hA : Sl64 w g ys) (hF : Fine ys) : PgAt base w (.slice (some ⟨g, 0, none⟩) 64 dd) := ⟨g, dd, ys, rfl, h1, h2, hA.bytes h2 hA.lt, hF⟩

theorem Gath.form {base k : Nat} {w : World} {v : Value} (h : Gath base w v k) (h1 : 1 ≤ k) : ∃ x cap ys, v = .slice (some ⟨x, 0, none⟩) k cap ∧ List.length ys = k ∧ (∀ z ∈ ys, 0 ≤ z ∧ z ≤ 255) ∧ BytesIn base w.heap.size w (some ⟨x, 0, none⟩) ys := by
  obtain ⟨ys, yl, yb, hown⟩ := h
  obtain ⟨x, cap, rfl⟩ := Joins.ownsRow_form hown (by omega)
  have hlt := hown.lt x rfl
  refine ⟨x, cap, ys, rfl, yl, yb, .inr ⟨x, 0, rfl, hlt.1, hlt.2, fun i hi => ?_, fun i hi => ?_⟩⟩
  · rw [Nat.zero_add, hown.cellAt i (by omega)]
    simp [List.getElem?_eq_getElem hi, List.getD]
  · rw [Nat.zero_add]; exact hown.frozenAt i

theorem fine_new (f : Int) (h0 : 0 ≤ f) (h1 : f ≤ 255) : Fine (newBytes f) := by
  have e0 : nb (newBytes f) 0 = 0 := rfl
  have e1 : nb (newBytes f) 1 = 64 := rfl
  refine Dirs.fine ⟨⟨by simp [newBytes], fun z hz => ?_⟩, by rw [e0]; omega, by rw [e0, e1]; omega, by rw [e1]; omega, fun j hj => absurd hj (by rw [e0]; omega), fun i k hk hi => absurd hi (by rw [e0]; omega), fun h0 => absurd h0 (by rw [e0]; omega)⟩
  simp only [newBytes, List.mem_cons, List.mem_replicate] at hz
  omega

end Go.Proofs.YtdgonddimenmdaaGreat

/-
  The model's l6Pages: pages with some rows, some of them moved.
-/
namespace Go.Proofs.YtdgonddimenmdaaGreat
open Go.RowKit
set_option linter.unusedVariables false
set_option maxRecDepth 20000

theorem Reads.keep {w w' : World} {g : Nat} {ys : List Int} (h : Reads w (some ⟨g, 0, none⟩) ys) (hk : w'.heap[g]? = w.heap[g]?) : Reads w' (some ⟨g, 0, none⟩) ys := by
  rcases h with h | ⟨b, off, e, hc⟩
  · exact .inl h
  · refine .inr ⟨b, off, e, fun k hlt => ?_⟩
    simp at e
    obtain ⟨rfl, rfl⟩ := e
    exact (World.cell?_of_block (a := ⟨g, 0 + k, none⟩) hk).trans (hc k hlt)

/-- A page without a fault in a block of its own, not pg. -/
structure PgN (base pg g dd : Nat) (ys : List Int) (w : World) : Prop where
  len : ys.length = 64
  fine : Fine ys
  rd : Reads w (some ⟨g, 0, none⟩) ys
  dd : 64 ≤ dd
  lo : base ≤ g
  ne : g ≠ pg
  lt : g < w.heap.size
theorem PgN.keep {base pg g dd : Nat} {ys : List Int} {w w' : World} (h : PgN base pg g dd ys w) (hk : w'.heap[g]? = w.heap[g]?) (hs : w.heap.size ≤ w'.heap.size) : PgN base pg g dd ys w' :=
  ⟨h.len, h.fine, h.rd.keep hk, h.dd, h.lo, h.ne, Nat.lt_of_lt_of_le h.lt hs⟩
theorem PgN.below {base pg g dd : Nat} {ys : List Int} {w w' : World} (h : PgN base pg g dd ys w) (hb : Below w.heap.size w w') : PgN base pg g dd ys w' := h.keep (hb.block g h.lt) hb.size
theorem PgN.src {base pg g dd lo hi : Nat} {ys : List Int} {w w' : World} (h : PgN base pg g dd ys w) (ht : Turned lo hi w w') (hb : hi ≤ base ∨ (lo = pg ∧ hi = pg + 1)) : PgN base pg g dd ys w' :=
  h.keep (ht.block g h.lt (by have := h.lo; have := h.ne; omega)) ht.size
/-- Two pages, their slices in block pg. -/
structure Pg2 (base pg g0 d0 g1 d1 : Nat) (y0 y1 : List Int) (w : World) : Prop where
  c0 : w.cell? ⟨pg, 0, none⟩ = some (.slice (some ⟨g0, 0, none⟩) 64 d0)
  c1 : w.cell? ⟨pg, 1, none⟩ = some (.slice (some ⟨g1, 0, none⟩) 64 d1)
  p0 : PgN base pg g0 d0 y0 w
  p1 : PgN base pg g1 d1 y1 w
  f : ∀ o, w.frozen? ⟨pg, o, none⟩ = false
  lo : base ≤ pg
theorem Pg2.lt {base pg g0 d0 g1 d1 : Nat} {y0 y1 : List Int} {w : World} (h : Pg2 base pg g0 d0 g1 d1 y0 y1 w) : pg < w.heap.size := World.block_lt_of_cell? w _ h.c0
theorem Pg2.below {base pg g0 d0 g1 d1 : Nat} {y0 y1 : List Int} {w w' : World} (h : Pg2 base pg g0 d0 g1 d1 y0 y1 w) (hb : Below w.heap.size w w') : Pg2 base pg g0 d0 g1 d1 y0 y1 w' :=
  ⟨(hb.cell (p := ⟨pg, 0, none⟩) h.lt).trans h.c0, (hb.cell (p := ⟨pg, 1, none⟩) h.lt).trans h.c1, h.p0.below hb, h.p1.below hb, fun o => (hb.frozen (p := ⟨pg, o, none⟩) h.lt).trans (h.f o), h.lo⟩
theorem Pg2.src {base pg g0 d0 g1 d1 lo hi : Nat} {y0 y1 : List Int} {w w' : World} (h : Pg2 base pg g0 d0 g1 d1 y0 y1 w) (ht : Turned lo hi w w') (hb : hi ≤ base) : Pg2 base pg g0 d0 g1 d1 y0 y1 w' :=
  have hl := h.lo
  ⟨ht.cell h.c0 (.inr (by simp only; omega)), ht.cell h.c1 (.inr (by simp only; omega)), h.p0.src ht (.inl hb), h.p1.src ht (.inl hb), fun o => (World.frozen?_of_block (a := ⟨pg, o, none⟩) (ht.block pg h.lt (by omega))).trans (h.f o), h.lo⟩

/-- One page is another one now. -/
theorem Pg2.set0 {base pg g0 d0 g1 d1 g d : Nat} {y0 y1 ys : List Int} {w : World} (h : Pg2 base pg g0 d0 g1 d1 y0 y1 w) (hp : PgN base pg g d ys w) : Pg2 base pg g d g1 d1 ys y1 (w.setCell ⟨pg, 0, none⟩ (.slice (some ⟨g, 0, none⟩) 64 d)) :=
  have t : Turned pg (pg + 1) w (w.setCell ⟨pg, 0, none⟩ (.slice (some ⟨g, 0, none⟩) 64 d)) := (Turned.refl _ _ _).setCell (p := ⟨pg, 0, none⟩) (Nat.le_refl _) (Nat.lt_succ_self _) _
  ⟨by simp [go_sem, h.c0], by simp [go_sem, h.c1], hp.src t (.inr ⟨rfl, rfl⟩), h.p1.src t (.inr ⟨rfl, rfl⟩), fun o => by simp [go_sem, h.f], h.lo⟩
theorem Pg2.set1 {base pg g0 d0 g1 d1 g d : Nat} {y0 y1 ys : List Int} {w : World} (h : Pg2 base pg g0 d0 g1 d1 y0 y1 w) (hp : PgN base pg g d ys w) : Pg2 base pg g0 d0 g d y0 ys (w.setCell ⟨pg, 1, none⟩ (.slice (some ⟨g, 0, none⟩) 64 d)) :=
  have t : Turned pg (pg + 1) w (w.setCell ⟨pg, 1, none⟩ (.slice (some ⟨g, 0, none⟩) 64 d)) := (Turned.refl _ _ _).setCell (p := ⟨pg, 1, none⟩) (Nat.le_refl _) (Nat.lt_succ_self _) _
  ⟨by simp [go_sem, h.c0], by simp [go_sem, h.c1], h.p0.src t (.inr ⟨rfl, rfl⟩), hp.src t (.inr ⟨rfl, rfl⟩), fun o => by simp [go_sem, h.f], h.lo⟩

/-- Two pages are pages that may be read. -/
theorem Pg2.read {base pg g0 d0 g1 d1 : Nat} {y0 y1 : List Int} {w : World} (h : Pg2 base pg g0 d0 g1 d1 y0 y1 w) : PgRead w (some ⟨pg, 0, none⟩) [y0, y1] ∧ PgOk [y0, y1] := by
  refine ⟨.inr ⟨pg, 0, rfl, fun i zs hz => ?_⟩, fun zs hz => ?_⟩
  · match i, hz with
    | 0, hz => simp at hz; subst hz; exact ⟨_, d0, by rw [h.p0.len]; exact h.c0, by rw [h.p0.len]; exact h.p0.dd, h.p0.rd⟩
    | 1, hz => simp at hz; subst hz; exact ⟨_, d1, by rw [h.p1.len]; exact h.c1, by rw [h.p1.len]; exact h.p1.dd, h.p1.rd⟩
  · simp at hz
    rcases hz with rfl | rfl
    · exact ⟨by rw [h.p0.len]; omega, h.p0.fine.pg.bd⟩
    · exact ⟨by rw [h.p1.len]; omega, h.p1.fine.pg.bd⟩

theorem cellBytes_rng {f t k v : Int} {s : ByteArray} (hok : okR ⟨t, k, v, s⟩) (f0 : 0 ≤ f) (f1 : f ≤ 2) : ∀ z ∈ cellBytes f t k v s, 0 ≤ z ∧ z ≤ 255 := by
  intro z hz
  obtain ⟨⟨t0, t1⟩, ⟨k0, k1⟩, ⟨v0, v1⟩, hs⟩ := hok
  dsimp only at t0 t1 k0 k1 v0 v1 hs
  unfold cellBytes at hz
  rcases List.mem_append.1 hz with h | h
  · simp at h
    rcases h with rfl | rfl | rfl | rfl | rfl | rfl <;> omega
  · simp at h
    obtain ⟨x, _, rfl⟩ := h
    have := x.toNat_lt
    omega
theorem cellBytes_len (f t k v : Int) (s : ByteArray) : (cellBytes f t k v s).length = 6 + s.size := by
  unfold cellBytes
  simp
  omega

/-- What stands through a round. -/
structure LgS (w : World) (b : Nat) (a : Option Addr) (n c : Nat) (zs : List Int) (i : Int) (pg g0 d0 g1 d1 : Nat) (y0 y1 : List Int) (rb ro : Nat) (r : Rw) (rbase : Nat) (rv : Value) (rs : List Rw) (V : World) : Prop where
  p : Pg2 w.heap.size pg g0 d0 g1 d1 y0 y1 V
  r : RowC V rb ro r
  s : SrcAt V b a n c zs i
  t : Turned b (b + 1) w V
  o : V.ownsRow rbase 32 4 rv rs.length (flat rwE rs)
theorem LgS.up {w : World} {b : Nat} {a : Option Addr} {n c : Nat} {zs : List Int} {i : Int} {pg g0 d0 g1 d1 : Nat} {y0 y1 : List Int} {rb ro : Nat} {r : Rw} {rbase : Nat} {rv : Value} {rs : List Rw} {V W : World} (h : LgS w b a n c zs i pg g0 d0 g1 d1 y0 y1 rb ro r rbase rv rs V) (hb : Below V.heap.size V W) : LgS w b a n c zs i pg g0 d0 g1 d1 y0 y1 rb ro r rbase rv rs W :=
  ⟨h.p.below hb, h.r.below hb (World.block_lt_of_cell? V _ h.r.c0), h.s.below hb, h.t.trans (Turned.ofBelow hb), ownsRow_below h.o hb⟩
theorem LgS.drew {w : World} {b : Nat} {a : Option Addr} {n c : Nat} {zs : List Int} {i : Int} {pg g0 d0 g1 d1 : Nat} {y0 y1 : List Int} {rb ro : Nat} {r : Rw} {rbase : Nat} {rv : Value} {rs : List Rw} {V : World} (h : LgS w b a n c zs i pg g0 d0 g1 d1 y0 y1 rb ro r rbase rv rs V) : LgS w b a n c zs i pg g0 d0 g1 d1 y0 y1 rb ro r rbase rv rs V.drew :=
  h.up ⟨rfl, rfl, rfl, Nat.le_refl _, fun _ _ => rfl⟩

end Go.Proofs.YtdgonddimenmdaaGreat
