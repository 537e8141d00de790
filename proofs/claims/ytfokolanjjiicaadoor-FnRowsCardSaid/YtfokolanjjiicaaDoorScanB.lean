/-
  The contract of scanRow, a machine of jumps.
-/
import Derived.Test.YtfokolanjjiicaaDoorScanF
import Derived.Deep.Cut
namespace Go.Proofs.YtfokolanjjiicaaDoor
open Go.RowKit
set_option linter.unusedVariables false

theorem wp_scope_first {P : Program} {a : Act} {w : World} {Q : Exit → Act → World → Prop} {c : Code} (J : Nat → Act → World → Prop) (m : Nat → Act → World → Nat)
    (pass : ∀ l a w, J l a w → ∃ r, findLabel c l = some (Code.skip.seq r) ∧ r.wp P (jumpsTo (fun l' a' w' => J l' a' w' ∧ m l' a' w' < m l a w) Q) a w)
    (first : (∀ a w, J 0 a w → ∀ r, findLabel c 0 = some (Code.skip.seq r) → r.wp P (jumpsTo J Q) a w) → c.wp P (jumpsTo J Q) a w) : (Code.scope c).wp P Q a w := by
  refine wp_scope_many (fun l => (findLabel c l).getD .skip) J m (fun l a w h => by obtain ⟨r, hr, _⟩ := pass l a w h; simp only [hr, Option.getD]) (first ?_)
    (fun l a w h => by obtain ⟨r, hr, hp⟩ := pass l a w h; simp only [hr, Option.getD]; exact wp_seq (wp_skip hp))
  intro a w h0 r hr
  obtain ⟨r', hr', hp⟩ := pass 0 a w h0
  rw [hr] at hr'
  simp at hr'
  subst hr'
  refine wp_mono hp ?_
  intro e a w h
  cases e <;> first | exact h.1 | exact h

theorem convertS (w : World) (a : Option Addr) (n c : Nat) (zs : List Int) (hn : zs.length = n) (h : Reads w a zs) : (convert 22 9 (.slice a n c)).run Tryd.prog w = .ok (.string (strOfNums zs)) w := by
  by_cases h0 : zs = []
  · subst h0
    simp at hn
    subst hn
    rw [run_convert_bytes_string w 22 9 5 a 0 c Tryd.underlying22 Tryd.underlying5 Tryd.underlying9]
    cases a with
    | none => simp [Conv.bytesToString]; rfl
    | some p =>
      have hl : (loadCells p 0).run Tryd.prog w = .ok (([] : List Int).map (Value.int .u8)).toArray w := run_loadCells_list (P := Tryd.prog) w p [] (fun j v hj => by simp at hj)
      rw [run_bytesToString w p 0 c [] hl]
      rfl
  · rcases h with h | ⟨b, off, rfl, hc⟩
    · exact absurd h h0
    · exact run_convert_bytes_arg w 22 5 Tryd.underlying22 Tryd.underlying5 b off n c zs hn (fun i hi => hc i (by omega)) 9 Tryd.underlying9

/-- The blocks of scanRow: a zero row, and three numbers. -/
structure ScB (w : World) (n0 n1 n2 : Int) (wr : World) : Prop where
  g : Below w.heap.size w wr
  r0 : wr.cell? ⟨w.heap.size, 0, none⟩ = some (.int .i64 0)
  r1 : wr.cell? ⟨w.heap.size, 1, none⟩ = some (.int .i64 0)
  r2 : wr.cell? ⟨w.heap.size, 2, none⟩ = some (.int .i64 0)
  r3 : wr.cell? ⟨w.heap.size, 3, none⟩ = some (.string ⟨#[]⟩)
  rf0 : wr.frozen? ⟨w.heap.size, 0, none⟩ = false
  rf1 : wr.frozen? ⟨w.heap.size, 1, none⟩ = false
  rf2 : wr.frozen? ⟨w.heap.size, 2, none⟩ = false
  rf3 : wr.frozen? ⟨w.heap.size, 3, none⟩ = false
  x0 : wr.cell? ⟨w.heap.size + 1, 0, none⟩ = some (.int .i64 n0)
  x1 : wr.cell? ⟨w.heap.size + 1, 1, none⟩ = some (.int .i64 n1)
  x2 : wr.cell? ⟨w.heap.size + 1, 2, none⟩ = some (.int .i64 n2)
  y0 : wr.frozen? ⟨w.heap.size + 1, 0, none⟩ = false
  y1 : wr.frozen? ⟨w.heap.size + 1, 1, none⟩ = false
  y2 : wr.frozen? ⟨w.heap.size + 1, 2, none⟩ = false

theorem scb_other {w : World} {n0 n1 n2 : Int} {wr : World} (i : Nat) (v : Value) (b j : Nat) (h : b ≠ w.heap.size + 1 ∨ j ≠ i) : (wr.setCell ⟨w.heap.size + 1, i, none⟩ v).cell? ⟨b, j, none⟩ = wr.cell? ⟨b, j, none⟩ :=
  World.cell?_setCell_other _ _ _ _ (fun e => by simp at e; omega)
theorem ScB.set0 {w : World} {n0 n1 n2 : Int} {wr : World} (h : ScB w n0 n1 n2 wr) (v : Int) : ScB w v n1 n2 (wr.setCell ⟨w.heap.size + 1, 0, none⟩ (.int .i64 v)) := by
  constructor <;> first | exact h.g.setCell (by simp) _ | (rw [World.frozen?_setCell]; first | exact h.rf0 | exact h.rf1 | exact h.rf2 | exact h.rf3 | exact h.y0 | exact h.y1 | exact h.y2) | exact World.cell?_setCell_same _ _ _ h.x0 | (rw [World.cell?_setCell_other _ _ _ _ (by simp)]; first | exact h.r0 | exact h.r1 | exact h.r2 | exact h.r3 | exact h.x1 | exact h.x2)
theorem ScB.set1 {w : World} {n0 n1 n2 : Int} {wr : World} (h : ScB w n0 n1 n2 wr) (v : Int) : ScB w n0 v n2 (wr.setCell ⟨w.heap.size + 1, 1, none⟩ (.int .i64 v)) := by
  constructor <;> first | exact h.g.setCell (by simp) _ | (rw [World.frozen?_setCell]; first | exact h.rf0 | exact h.rf1 | exact h.rf2 | exact h.rf3 | exact h.y0 | exact h.y1 | exact h.y2) | exact World.cell?_setCell_same _ _ _ h.x1 | (rw [World.cell?_setCell_other _ _ _ _ (by simp)]; first | exact h.r0 | exact h.r1 | exact h.r2 | exact h.r3 | exact h.x0 | exact h.x2)
theorem ScB.set2 {w : World} {n0 n1 n2 : Int} {wr : World} (h : ScB w n0 n1 n2 wr) (v : Int) : ScB w n0 n1 v (wr.setCell ⟨w.heap.size + 1, 2, none⟩ (.int .i64 v)) := by
  constructor <;> first | exact h.g.setCell (by simp) _ | (rw [World.frozen?_setCell]; first | exact h.rf0 | exact h.rf1 | exact h.rf2 | exact h.rf3 | exact h.y0 | exact h.y1 | exact h.y2) | exact World.cell?_setCell_same _ _ _ h.x2 | (rw [World.cell?_setCell_other _ _ _ _ (by simp)]; first | exact h.r0 | exact h.r1 | exact h.r2 | exact h.r3 | exact h.x0 | exact h.x1)

theorem ScB.below2 {w : World} {n0 n1 n2 : Int} {wr w1 : World} (h : ScB w n0 n1 n2 wr) (hb : Below (w.heap.size + 2) wr w1) : ScB w n0 n1 n2 w1 := by
  have c : ∀ b i u, b < w.heap.size + 2 → wr.cell? ⟨b, i, none⟩ = some u → w1.cell? ⟨b, i, none⟩ = some u := fun b i u hlt hc => (hb.cell (p := ⟨b, i, none⟩) hlt).trans hc
  have f : ∀ b i, b < w.heap.size + 2 → wr.frozen? ⟨b, i, none⟩ = false → w1.frozen? ⟨b, i, none⟩ = false := fun b i hlt hc => (hb.frozen (p := ⟨b, i, none⟩) hlt).trans hc
  exact ⟨h.g.trans (hb.mono (by omega)), c _ _ _ (by omega) h.r0, c _ _ _ (by omega) h.r1, c _ _ _ (by omega) h.r2, c _ _ _ (by omega) h.r3, f _ _ (by omega) h.rf0, f _ _ (by omega) h.rf1, f _ _ (by omega) h.rf2, f _ _ (by omega) h.rf3, c _ _ _ (by omega) h.x0, c _ _ _ (by omega) h.x1, c _ _ _ (by omega) h.x2, f _ _ (by omega) h.y0, f _ _ (by omega) h.y1, f _ _ (by omega) h.y2⟩

/-- What holds where the machine stands at label l. -/
def ScI (s : ByteArray) (w : World) : Nat → Value → Nat → Nat → Int → Int → Int → World → Prop
  | 0, v5, p, cnt, n0, n1, n2, _ => p ≤ s.size ∧ v5 = .slice none 0 0 ∧ ∃ ws, cutSt s p = (ws, p) ∧ ws.length = cnt ∧ cnt < 3 ∧ numsOk ws n0 n1 n2
  | 1, _, _, _, _, _, _, _ => BadT s
  | 2, v5, _, cnt, n0, n1, n2, _ => (cnt < 3 ∧ BadT s) ∨ (cnt = 3 ∧ v5 = .slice none 0 0 ∧ ScanOk s n0 n1 n2 ⟨#[]⟩ true)
  | 3, v5, q, cnt, n0, n1, n2, wr => ∃ p k ws, q = p + k ∧ cnt = 3 ∧ p + k ≤ s.size ∧ (k = 0 ∨ p + k < s.size) ∧ cutSt s p = (ws, p) ∧ ws.length = 3 ∧ numsOk ws n0 n1 n2 ∧ (∀ i, p ≤ i → i < p + k → lttB (byteAt s i) = true) ∧ wr.ownsRow (w.heap.size + 2) 5 1 v5 k ((bytesL s p k).map (Value.int .u8))
  | _, _, _, _, _, _, _, _ => False

def ScJ (s : ByteArray) (w : World) (l : Nat) (a : Act) (wr : World) : Prop :=
  ∃ (v5 va vc v8 u9 u10 u11 u12 u13 u14 u15 u16 u17 u18 u19 u20 u21 u22 u23 u24 u25 u26 u27 u28 u29 u30 u31 u32 u33 u34 u35 u36 u37 u38 u39 u40 u41 u42 u43 u44 u45 u46 u47 u48 u49 u50 u51 u52 u53 u54 u55 u56 u57 u58 u59 u60 u61 u62 u63 u64 u65 u66 u67 u68 : Value), a = ⟨#[.string s, undef, .pointer (some ⟨w.heap.size, 0, none⟩), .bool false, .pointer (some ⟨w.heap.size + 1, 0, none⟩), v5, va, vc, v8, u9, u10, u11, u12, u13, u14, u15, u16, u17, u18, u19, u20, u21, u22, u23, u24, u25, u26, u27, u28, u29, u30, u31, u32, u33, u34, u35, u36, u37, u38, u39, u40, u41, u42, u43, u44, u45, u46, u47, u48, u49, u50, u51, u52, u53, u54, u55, u56, u57, u58, u59, u60, u61, u62, u63, u64, u65, u66, u67, u68], []⟩ ∧ ∃ (q cnt : Nat) (n0 n1 n2 : Int), va = .int .i64 q ∧ vc = .int .i64 cnt ∧ ScB w n0 n1 n2 wr ∧ ScI s w l v5 q cnt n0 n1 n2 wr
def scM (s : ByteArray) (l : Nat) (a : Act) (_ : World) : Nat :=
  if l = 0 then 2 * s.size + 10 - (intOf (a.tmps.getD 6 undef)).toNat else if l = 3 then s.size + 5 - (intOf (a.tmps.getD 6 undef)).toNat else if l = 2 then 1 else 0

end Go.Proofs.YtfokolanjjiicaaDoor
