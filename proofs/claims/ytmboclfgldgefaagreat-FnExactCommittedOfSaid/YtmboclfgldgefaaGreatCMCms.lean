/-
  Both CommittedOf.
-/
import Derived.Test.YtmboclfgldgefaaGreatCMCmr
import Derived.Test.YtmboclfgldgefaaGreatCMPfs
import Derived.Test.YtmboclfgldgefaaGreatCMRoc
import Derived.Test.YtmboclfgldgefaaGreatCMTxm
import Derived.Test.YtmboclfgldgefaaGreatCMCht
import Derived.OpenShut

namespace Go.Proofs.YtmboclfgldgefaaGreat
open Go.RowKit Go.Maps
set_option linter.unusedVariables false
set_option maxRecDepth 20000

/-- The rows of what was committed. -/
def cmL (rs : List Rw) (xs : List TxV) (nx : Int) : List Rw := if pnQ rs xs nx = 0 then (undR rs (undL xs)).getD [] else []
theorem pn_zero {rs : List Rw} {xs : List TxV} {nx : Int} (h : pnQ rs xs nx = 0) : rowsQ rs = 0 ∧ txsQ xs = 0 ∧ ¬ 12 < (allRK rs xs).length ∧ ∃ m, undR rs (undL xs) = some m ∧ cmL rs xs nx = m := by
  have hL : cmL rs xs nx = (undR rs (undL xs)).getD [] := by unfold cmL; rw [if_pos h]
  unfold pnQ at h
  by_cases h1 : rowsQ rs = 0
  · rw [if_pos h1] at h
    by_cases h2 : txsQ xs = 0
    · rw [if_pos h2] at h
      by_cases h3 : nxQ nx xs = 0
      · rw [if_pos h3] at h
        by_cases h4 : 12 < (allRK rs xs).length
        · rw [if_pos h4] at h; cases h
        · rw [if_neg h4] at h
          cases hu : undR rs (undL xs) with
          | none => rw [hu] at h; simp at h
          | some m => exact ⟨h1, h2, h4, m, rfl, by rw [hL, hu]; rfl⟩
      · rw [if_neg h3] at h; cases h
    · rw [if_neg h2] at h; exact absurd h h2
  · rw [if_neg h1] at h; exact absurd h h1
theorem Rs.apart {α : Type} {enc : α → List Value} {k g z b : Nat} {w w' : World} {xs : List α} (h : Rs enc k w (some ⟨g, z, none⟩) xs) (ht : Turned b (b + 1) w w') (hg : b + 1 ≤ g) : Rs enc k w' (some ⟨g, z, none⟩) xs := by
  rcases h with h | ⟨b', off, ha, hc⟩
  · exact .inl h
  · cases ha
    exact .inr ⟨g, z, rfl, fun i x hx j u hu => ht.cell (hc i x hx j u hu) (.inr hg)⟩
theorem cmL_len (rs : List Rw) (xs : List TxV) (nx : Int) : (cmL rs xs nx).length ≤ 100 := by
  by_cases h : pnQ rs xs nx = 0
  · obtain ⟨h1, h2, h3, m, h4, h5⟩ := pn_zero h
    rw [h5]
    obtain ⟨hr, _⟩ := rowsQ_ris h1
    have h6 := (undR_ok hr (undL_ok (txs_al h2)) h4).2
    rw [undL_len] at h6
    have h7 := allRK_rows hr xs
    have h8 := (txs_parts h2).2.2
    omega
  · unfold cmL; rw [if_neg h]; simp

set_option maxHeartbeats 4000000 in
theorem specCommittedOf_any (ra : Option Addr) (rs : List Rw) (rn rc : Nat) (a : Option Addr) (xs : List TxV) (n c : Nat) (nx : Int) (w : World) (hrn : rs.length = rn) (hrm : rn ≤ 1048576) (hrs : ∀ r ∈ rs, r.s.size ≤ 1048576) (hr : Rs rwE 4 w ra rs) (hn : xs.length = n) (hm : n ≤ 1048576) (hs : ∀ x ∈ xs, TxOk 1048576 x) (hx : TxRd w a xs) :
    Calls Tryz.prog 10 #[.agg #[.slice ra rn rc, .slice a n c, .int .i64 nx]] w fun e w' => ∃ a' c', e = .returned (.agg #[.int .i64 (pnQ rs xs nx), .slice a' (cmL rs xs nx).length c']) ∧ Below w.heap.size w w' ∧ Rs rwE 4 w' a' (cmL rs xs nx) := by
  have HF : Hid (∀ V pb, Below w.heap.size w V → P3 V pb (.slice ra rn rc) (.slice a n c) (.int .i64 nx) → Calls Tryz.prog 18 #[.pointer (some ⟨pb, 0, none⟩)] V fun e w' => e = .returned (.int .i64 (pnQ rs xs nx)) ∧ Below V.heap.size V w') := fun V pb hV hP => l11Fault_any pb ra rs rn rc a xs n c nx V hP hrn hrm hrs (hr.below hV (Nat.le_refl _)) hn hm hs (hx.below hV (Nat.le_refl _))
  have HBk : Hid (∀ V, Below w.heap.size w V → pnQ rs xs nx = 0 → Calls Tryz.prog 29 #[.slice ra rn rc, .slice a n c] V fun e w' => ∃ g z c l, e = .returned (.tuple #[.slice (some ⟨g, z, none⟩) l c, .bool true]) ∧ Below V.heap.size V w' ∧ Rs rwE 4 w' (some ⟨g, z, none⟩) (cmL rs xs nx) ∧ (cmL rs xs nx).length = l ∧ V.heap.size ≤ g) := fun V hV h0 => by
    obtain ⟨h1, h2, h3, m, h4, h5⟩ := pn_zero h0
    refine (l11Back_any ra rs rn rc a xs n c V hrn (rowsQ_ris h1).1 (hr.below hV (Nat.le_refl _)) hn h2 (hx.below hV (Nat.le_refl _))).mono ?_
    rintro e w' ⟨hb, ⟨h6, _⟩ | ⟨l, g, z, c, h6, h7, h8, h9⟩⟩
    · rw [h4] at h6; cases h6
    · rw [h4] at h6
      obtain rfl := Option.some.inj h6
      rw [h5]
      exact ⟨g, z, c, _, h7, hb, h8, rfl, h9⟩
  have HN0 : Hid (pnQ rs xs nx ≠ 0 → cmL rs xs nx = []) := fun h => by unfold cmL; rw [if_neg h]
  obtain ⟨Q, hQ⟩ : ∃ Q, pnQ rs xs nx = Q := ⟨_, rfl⟩
  rw [hQ] at HF HBk HN0 ⊢
  generalize cmL rs xs nx = L at HBk HN0 ⊢
  clear hrn hrs hr hn hs hx hQ
  go_enter Tryz.func10, Tryz.ntmps10
  go_upto_region 1 with (fail)
  generalize hY : World.alloc _ _ = Y
  have gY : Below w.heap.size w Y := by rw [← hY]; go_grown
  have A : P3 Y w.heap.size (.slice ra rn rc) (.slice a n c) (.int .i64 nx) := by rw [← hY]; exact ⟨by simp [go_sem], by simp [go_sem], by simp [go_sem]⟩
  have O : Rc2 Y (w.heap.size + 1) := by rw [← hY]; exact ⟨by simp [go_sem], by simp [go_sem], by simp [go_sem], by simp [go_sem]⟩
  clear hY
  obtain ⟨ab, hab⟩ : ∃ ab, w.heap.size = ab := ⟨_, rfl⟩
  obtain ⟨rb, hrb⟩ : ∃ rb, ab + 1 = rb := ⟨_, rfl⟩
  have hwr : w.heap.size ≤ rb := by omega
  rw [hab] at A O
  rw [hrb] at O
  simp only [hab]
  try simp only [hrb]
  have HAB : Hid (w.heap.size = ab) := hab
  clear hab hrb
  have lA := A.lt
  have lO := O.lt
  have HP : Hid (∀ V, Below Y.heap.size Y V → P3 V ab (.slice ra rn rc) (.slice a n c) (.int .i64 nx)) := fun V hV => A.below hV lA
  have hcon := HF.out Y ab gY A
  go_wp2_with fail
  refine hcon.mono ?_
  rintro e w1 ⟨rfl, g1⟩
  have O := O.below g1
  have lO := O.lt
  have g := gY.trans (g1.mono gY.size)
  clear hcon HF
  by_cases h0 : Q = 0
  case neg =>
    have d0 : (Q != 0) = true := by simpa using h0
    have HL : Hid (L = []) := HN0.out h0
    clear HBk HN0 A g1
    obtain ⟨o0, o1, f0, f1⟩ := O
    go_wp2_with fail
    refine bodyPost_ret (v := .agg #[.int .i64 Q, .slice none 0 0]) (by simp [results, Tryz.results10, go_sem, *]) rfl ?_
    exact ⟨none, 0, by rw [HL.out]; rfl, below_set2 g hwr _ _, by rw [HL.out]; exact .inl rfl⟩
  have HB2 := fun V hV => HBk.out V hV h0
  have HB3 : Hid (∀ V, Below w.heap.size w V → Calls Tryz.prog 29 #[.slice ra rn rc, .slice a n c] V fun e w' => ∃ g z c l, e = .returned (.tuple #[.slice (some ⟨g, z, none⟩) l c, .bool true]) ∧ Below V.heap.size V w' ∧ Rs rwE 4 w' (some ⟨g, z, none⟩) L ∧ L.length = l ∧ V.heap.size ≤ g) := HB2
  clear HB2 HBk HN0
  subst h0
  obtain ⟨q0, q1, q2⟩ := HP.out w1 g1
  have hcon := HB3.out w1 g
  clear HB3 A
  go_wp2_with fail
  refine hcon.mono ?_
  rintro e w2 ⟨g9, z9, c9, l9, rfl, g2, R9, hl9, hg9⟩
  have O := O.below g2
  have g := g.trans (g2.mono g.size)
  have hrl : rb + 1 ≤ w1.heap.size := lO
  have HR9 : Hid (Rs rwE 4 w2 (some ⟨g9, z9, none⟩) L ∧ L.length = l9 ∧ rb + 1 ≤ g9) := ⟨R9, hl9, by omega⟩
  clear hcon q0 q1 q2 g1 R9 hl9 hg9
  obtain ⟨o0, o1, f0, f1⟩ := O
  go_wp2_with fail
  refine bodyPost_ret (v := .agg #[.int .i64 0, .slice (some ⟨g9, z9, none⟩) l9 c9]) (by simp [results, Tryz.results10, go_sem, *]) rfl ?_
  refine ⟨_, c9, by rw [HR9.out.2.1], below_set2 g hwr _ _, ?_⟩
  exact HR9.out.1.apart (turned_set2 _ _) HR9.out.2.2

theorem AcPost.zero {rs : List Rw} {cs : List Chg} {w w' : World} {e : Ending} {m : List Rw} (h : AcPost rs cs w e w') (hq : acQ rs cs = 0) (hl : acL rs cs = m) : ∃ a c, e = .returned (.agg #[.int .i64 0, .slice a m.length c]) ∧ Below w.heap.size w w' ∧ SlIn rwE 4 w.heap.size w'.heap.size w' a m := by
  obtain ⟨a, c, h1, h2, h3⟩ := h.form
  rw [hq, hl] at h1
  rw [hl] at h3
  exact ⟨a, c, h1, h2, h3⟩

set_option maxHeartbeats 4000000 in
theorem implCommittedOf_any (ra : Option Addr) (rs : List Rw) (rn rc : Nat) (a : Option Addr) (xs : List TxV) (n c : Nat) (nx : Int) (w : World) (hrn : rs.length = rn) (hrm : rn ≤ 1048576) (hrs : ∀ r ∈ rs, r.s.size ≤ 1048576) (hr : Rs rwE 4 w ra rs) (hn : xs.length = n) (hm : n ≤ 1048576) (hs : ∀ x ∈ xs, TxOk 1048576 x) (hx : TxRc w a xs) :
    Calls Tryz.prog 11 #[.agg #[.slice ra rn rc, .slice a n c, .int .i64 nx]] w fun e w' => ∃ a' c', e = .returned (.agg #[.int .i64 (pnQ rs xs nx), .slice a' (cmL rs xs nx).length c']) ∧ Below w.heap.size w w' ∧ SlIn rwE 4 w.heap.size w'.heap.size w' a' (cmL rs xs nx) := by
  have HF : Hid (∀ V, Below w.heap.size w V → Calls Tryz.prog 8 #[.agg #[.slice ra rn rc, .slice a n c, .int .i64 nx]] V fun e w' => e = .returned (.int .i64 (pnQ rs xs nx)) ∧ Below V.heap.size V w') := fun V hV => implPlainFault_any ra rs rn rc a xs n c nx V hrn hrm hrs (hr.below hV (Nat.le_refl _)) hn hm hs (hx.below hV (Nat.le_refl _))
  have HRo : Hid (∀ V, Below w.heap.size w V → pnQ rs xs nx = 0 → Calls Tryz.prog 26 #[.agg #[.slice ra rn rc, .slice a n c, .int .i64 nx]] V fun e w' => ∃ a' c' l', e = .returned (.agg #[.int .i64 0, .slice a' l' c']) ∧ Below V.heap.size V w' ∧ SlIn rwE 4 V.heap.size w'.heap.size w' a' (cmL rs xs nx) ∧ (cmL rs xs nx).length = l') := fun V hV h0 => by
    obtain ⟨h1, h2, h3, m, h4, h5⟩ := pn_zero h0
    refine (rowsOfCommits_any ra rs rn rc a xs n c nx V hrn hrm hrs (hr.below hV (Nat.le_refl _)) hn hs h2 (hx.rd.below hV (Nat.le_refl _))).mono ?_
    intro e w' h
    have hq : acQ rs (undL xs) = 0 := by rw [ac_und h1 h2 h3, h4]; rfl
    obtain ⟨a', c', h6, h7, h8⟩ := h.zero hq (ac_undL h1 h2 h3 h4)
    rw [h5]
    exact ⟨a', c', _, h6, h7, h8, rfl⟩
  have HN0 : Hid (pnQ rs xs nx ≠ 0 → cmL rs xs nx = []) := fun h => by unfold cmL; rw [if_neg h]
  obtain ⟨Q, hQ⟩ : ∃ Q, pnQ rs xs nx = Q := ⟨_, rfl⟩
  rw [hQ] at HF HRo HN0 ⊢
  generalize cmL rs xs nx = L at HRo HN0 ⊢
  clear hrn hrs hr hn hs hx hQ
  go_enter Tryz.func11, Tryz.ntmps11
  go_upto_region 1 with (fail)
  generalize hY : World.alloc _ _ = Y
  have gY : Below w.heap.size w Y := by rw [← hY]; go_grown
  have A : P3 Y w.heap.size (.slice ra rn rc) (.slice a n c) (.int .i64 nx) := by rw [← hY]; exact ⟨by simp [go_sem], by simp [go_sem], by simp [go_sem]⟩
  have O : Rc2 Y (w.heap.size + 1) := by rw [← hY]; exact ⟨by simp [go_sem], by simp [go_sem], by simp [go_sem], by simp [go_sem]⟩
  clear hY
  obtain ⟨ab, hab⟩ : ∃ ab, w.heap.size = ab := ⟨_, rfl⟩
  obtain ⟨rb, hrb⟩ : ∃ rb, ab + 1 = rb := ⟨_, rfl⟩
  have hwr : w.heap.size ≤ rb := by omega
  rw [hab] at A O
  rw [hrb] at O
  simp only [hab]
  try simp only [hrb]
  have HAB : Hid (w.heap.size = ab) := hab
  clear hab hrb
  have lA := A.lt
  have lO := O.lt
  have HP : Hid (∀ V, Below Y.heap.size Y V → P3 V ab (.slice ra rn rc) (.slice a n c) (.int .i64 nx)) := fun V hV => A.below hV lA
  have hcon := HF.out Y gY
  obtain ⟨q0, q1, q2⟩ := A
  go_wp2_with fail
  refine hcon.mono ?_
  rintro e w1 ⟨rfl, g1⟩
  have O := O.below g1
  have lO := O.lt
  have g := gY.trans (g1.mono gY.size)
  clear hcon HF q0 q1 q2
  by_cases h0 : Q = 0
  case neg =>
    have d0 : (Q != 0) = true := by simpa using h0
    have HL : Hid (L = []) := HN0.out h0
    clear HRo HN0 g1
    obtain ⟨o0, o1, f0, f1⟩ := O
    go_wp2_with fail
    refine bodyPost_ret (v := .agg #[.int .i64 Q, .slice none 0 0]) (by simp [results, Tryz.results11, go_sem, *]) rfl ?_
    exact ⟨none, 0, by rw [HL.out]; rfl, below_set2 g hwr _ _, by rw [HL.out]; exact .inl rfl⟩
  have HB2 := fun V hV => HRo.out V hV h0
  have HB3 : Hid (∀ V, Below w.heap.size w V → Calls Tryz.prog 26 #[.agg #[.slice ra rn rc, .slice a n c, .int .i64 nx]] V fun e w' => ∃ a' c' l', e = .returned (.agg #[.int .i64 0, .slice a' l' c']) ∧ Below V.heap.size V w' ∧ SlIn rwE 4 V.heap.size w'.heap.size w' a' L ∧ L.length = l') := HB2
  clear HB2 HRo HN0
  subst h0
  obtain ⟨q0, q1, q2⟩ := HP.out w1 g1
  have hcon := HB3.out w1 g
  clear HB3
  go_wp2_with fail
  refine hcon.mono ?_
  rintro e w2 ⟨a9, c9, l9, rfl, g2, S9, hl9⟩
  have O := O.below g2
  have hws : w.heap.size ≤ w1.heap.size := g.size
  have g := g.trans (g2.mono g.size)
  have hrl : rb + 1 ≤ w1.heap.size := lO
  have HS9 : Hid (SlIn rwE 4 w1.heap.size w2.heap.size w2 a9 L ∧ L.length = l9) := ⟨S9, hl9⟩
  clear hcon q0 q1 q2 g1 S9 hl9
  obtain ⟨o0, o1, f0, f1⟩ := O
  go_wp2_with fail
  refine bodyPost_ret (v := .agg #[.int .i64 0, .slice a9 l9 c9]) (by simp [results, Tryz.results11, go_sem, *]) rfl ?_
  refine ⟨a9, c9, by rw [HS9.out.2], below_set2 g hwr _ _, ?_⟩
  exact (HS9.out.1.turned (turned_set2 _ _) (.inr hrl)).wide hws (by simp)

end Go.Proofs.YtmboclfgldgefaaGreat

/-
  Transactions that came in; the law FnExactTxsFault answers true.
-/
namespace Go.Proofs.YtmboclfgldgefaaGreat
open Go.ChangeShapes Go.WideShapes Go.RowKit Go.Maps
set_option linter.unusedVariables false
set_option maxRecDepth 20000

instance : Inhabited K2 := ⟨⟨0, 0⟩⟩
instance : Inhabited TxV := ⟨⟨0, [], [], []⟩⟩
theorem rs_of {α : Type} {enc : α → List Value} {k len : Nat} {W : World} {y : Addr} (q : Nat → α) (hne : ∀ x, ∃ u, (enc x)[0]? = some u) (hq : ∀ i, i < len → ∀ j u, (enc (q i))[j]? = some u → W.cell? (y.add (i * k + j)) = some u) : Rs enc k W (some y) ((List.range len).map q) := by
  by_cases h0 : len = 0
  · subst h0; exact .inl rfl
  · obtain ⟨b, off, spot⟩ := y
    obtain ⟨u, hu⟩ := hne (q 0)
    have hc0 := hq 0 (by omega) 0 u hu
    have hspot : spot = none := by simpa [Addr.add] using World.cell?_spot hc0
    subst hspot
    have ea : ∀ i, (⟨b, off, none⟩ : Addr).add i = ⟨b, off + i, none⟩ := by intro i; unfold Addr.add; split <;> simp_all
    refine .inr ⟨b, off, rfl, fun i r hr j u hu => ?_⟩
    obtain ⟨hi, rfl⟩ := list_of_fun q len hr
    have q0 := hq i hi j u hu
    rw [ea, ← Nat.add_assoc] at q0
    exact q0
theorem open_nums {H : Type} {enc : TypeId × Value → H} {W : World} {base : Nat} {held : Bool} {fuel : Nat} {a : Option Addr} {len cap : Nat} {x : DataW H × List MemPlace}
    (h : DataW.trod enc Tryz.prog W base (fun _ => true) held fuel 65 [.slice a len cap] = some x) : ∃ ms : List Int, ms.length = len ∧ len ≤ maxLen ∧ Rs inE 1 W a ms := by
  have hml : maxLen = 9223372036854775807 := by decide
  rcases Go.Deep.open_slice Tryz.underlying65 h with ⟨hcs, _⟩ | ⟨y, l, c, m, n, Dd, Pl, hcs, hb, hl, hm, hmm, _, hx⟩
  · simp only [List.cons.injEq, Value.slice.injEq, and_true] at hcs
    obtain ⟨rfl, rfl, rfl⟩ := hcs
    exact ⟨[], rfl, by omega, .inl rfl⟩
  · simp only [List.cons.injEq, Value.slice.injEq, and_true] at hcs
    obtain ⟨rfl, rfl, rfl⟩ := hcs
    simp only [if_true] at hmm
    subst hmm
    have ce : Tryz.prog.cellsOf 2 = 1 := by kernel_rfl
    have each : ∀ i, i < len → ∃ q : Int, ∀ j u, (inE q)[j]? = some u → W.cell? (y.add (i * 1 + j)) = some u := by
      intro i hi
      obtain ⟨cs', h1, h2⟩ := hx i (by omega)
      rw [ce] at h1
      obtain ⟨_, hlen, hcell⟩ := World.cells?_some h1
      obtain ⟨p, e0, _, _⟩ := DataW.trod_int Tryz.underlying2 h2
      subst e0
      refine ⟨p, fun j u hu => ?_⟩
      have hj : j < 1 := by
        have := (List.getElem?_eq_some_iff.1 hu).1
        rw [inE_len] at this
        exact this
      have k0 := hcell j (by simpa using hj)
      rw [Go.Deep.add_add] at k0
      rw [k0]
      exact hu
    obtain ⟨q, hq⟩ := Go.Deep.choose_lt each
    exact ⟨(List.range len).map q, by simp, by omega, rs_of q (fun x => ⟨_, rfl⟩) hq⟩
theorem two2 {α : Type} (xs : List α) (h : xs.length = 2) : ∃ a b, xs = [a, b] := by
  match xs, h with
  | [a, b], _ => exact ⟨a, b, rfl⟩
theorem open_keys {H : Type} {enc : TypeId × Value → H} {W : World} {base : Nat} {held : Bool} {fuel : Nat} {a : Option Addr} {len cap : Nat} {x : DataW H × List MemPlace}
    (h : DataW.trod enc Tryz.prog W base (fun _ => true) held fuel 66 [.slice a len cap] = some x) : ∃ ls : List K2, ls.length = len ∧ len ≤ maxLen ∧ Rs kyE 2 W a ls := by
  have hml : maxLen = 9223372036854775807 := by decide
  rcases Go.Deep.open_slice Tryz.underlying66 h with ⟨hcs, _⟩ | ⟨y, l, c, m, n, Dd, Pl, hcs, hb, hl, hm, hmm, _, hx⟩
  · simp only [List.cons.injEq, Value.slice.injEq, and_true] at hcs
    obtain ⟨rfl, rfl, rfl⟩ := hcs
    exact ⟨[], rfl, by omega, .inl rfl⟩
  · simp only [List.cons.injEq, Value.slice.injEq, and_true] at hcs
    obtain ⟨rfl, rfl, rfl⟩ := hcs
    simp only [if_true] at hmm
    subst hmm
    have ce : Tryz.prog.cellsOf 142 = 2 := by kernel_rfl
    have each : ∀ i, i < len → ∃ q : K2, ∀ j u, (kyE q)[j]? = some u → W.cell? (y.add (i * 2 + j)) = some u := by
      intro i hi
      obtain ⟨cs', h1, h2⟩ := hx i (by omega)
      rw [ce] at h1
      obtain ⟨_, hlen, hcell⟩ := World.cells?_some h1
      obtain ⟨xs, k, hk, hxy, _, hxl, hf⟩ := DataW.trod_struct Tryz.underlying142 h2
      have hx2 : xs.length = 2 := hxl
      clear hxl
      obtain ⟨y0, y1, rfl⟩ := two2 xs hx2
      obtain ⟨v0, v1, rfl⟩ := two2 cs' hlen
      have g0 := hf 0 _ rfl
      have g1 := hf 1 _ rfl
      have c2 : Tryz.prog.cellsOf 2 = 1 := by kernel_rfl
      simp [c2] at g0 g1
      obtain ⟨t0, e0, _, _⟩ := DataW.trod_int Tryz.underlying2 g0
      obtain ⟨t1, e1, _, _⟩ := DataW.trod_int Tryz.underlying2 g1
      simp only [List.cons.injEq, and_true] at e0 e1
      subst e0 e1
      refine ⟨⟨t0, t1⟩, fun j u hu => ?_⟩
      have hj : j < 2 := by
        have := (List.getElem?_eq_some_iff.1 hu).1
        rw [kyE_len] at this
        exact this
      have k0 := hcell j (by omega)
      rw [Go.Deep.add_add] at k0
      rw [k0]
      exact hu
    obtain ⟨q, hq⟩ := Go.Deep.choose_lt each
    exact ⟨(List.range len).map q, by simp, by omega, rs_of q (fun x => ⟨_, rfl⟩) hq⟩
theorem slice_form {H : Type} {enc : TypeId × Value → H} {W : World} {base : Nat} {held : Bool} {fuel : Nat} {T E : TypeId} {v : Value} {x : DataW H × List MemPlace} (hu : Tryz.prog.underlying T = some (.slice E))
    (h : DataW.trod enc Tryz.prog W base (fun _ => true) held fuel T [v] = some x) : ∃ a l c, v = .slice a l c := by
  rcases Go.Deep.open_slice hu h with ⟨hcs, _⟩ | ⟨y, l, c, m, n, Dd, Pl, hcs, _⟩
  · simp only [List.cons.injEq, and_true] at hcs
    exact ⟨_, _, _, hcs⟩
  · simp only [List.cons.injEq, and_true] at hcs
    exact ⟨_, _, _, hcs⟩
theorem open_txs {H : Type} {enc : TypeId × Value → H} {W : World} {base : Nat} {held : Bool} {fuel : Nat} {a : Option Addr} {len cap : Nat} {x : DataW H × List MemPlace}
    (h : DataW.trod enc Tryz.prog W base (fun _ => true) held fuel 23 [.slice a len cap] = some x) : ∃ xs, IsTxs W a len xs := by
  have hml : maxLen = 9223372036854775807 := by decide
  rcases Go.Deep.open_slice Tryz.underlying23 h with ⟨hcs, _⟩ | ⟨y, l, c, m, n, Dd, Pl, hcs, hb, hl, hm, hmm, _, hx⟩
  · simp only [List.cons.injEq, Value.slice.injEq, and_true] at hcs
    obtain ⟨rfl, rfl, rfl⟩ := hcs
    exact ⟨[], .inl rfl, rfl, by omega, fun r hr => by simp at hr⟩
  · simp only [List.cons.injEq, Value.slice.injEq, and_true] at hcs
    obtain ⟨rfl, rfl, rfl⟩ := hcs
    simp only [if_true] at hmm
    subst hmm
    have ce : Tryz.prog.cellsOf 68 = 4 := by kernel_rfl
    have each : ∀ i, i < len → ∃ q : (TxV × (Option Addr × Nat) × (Option Addr × Nat) × (Option Addr × Nat)), (W.cell? (y.add (i * 4)) = some (.int .i64 q.1.id) ∧ W.cell? (y.add (i * 4 + 1)) = some (.slice q.2.1.1 q.1.u.length q.2.1.2) ∧ W.cell? (y.add (i * 4 + 2)) = some (.slice q.2.2.1.1 q.1.m.length q.2.2.1.2) ∧ W.cell? (y.add (i * 4 + 3)) = some (.slice q.2.2.2.1 q.1.l.length q.2.2.2.2)) ∧ Rs chE 10 W q.2.1.1 q.1.u ∧ Rs inE 1 W q.2.2.1.1 q.1.m ∧ Rs kyE 2 W q.2.2.2.1 q.1.l ∧ TxOk maxLen q.1 := by
      intro i hi
      obtain ⟨cs', h1, h2⟩ := hx i (by omega)
      rw [ce] at h1
      obtain ⟨_, hlen, hcell⟩ := World.cells?_some h1
      obtain ⟨xs, k, hk, hxy, _, hxl, hf⟩ := DataW.trod_struct Tryz.underlying68 h2
      have hx4 : xs.length = 4 := hxl
      clear hxl
      obtain ⟨y0, y1, y2, y3, rfl⟩ := four xs hx4
      obtain ⟨v0, v1, v2, v3, rfl⟩ := four cs' hlen
      have g0 := hf 0 _ rfl
      have g1 := hf 1 _ rfl
      have g2 := hf 2 _ rfl
      have g3 := hf 3 _ rfl
      have c2 : Tryz.prog.cellsOf 2 = 1 := by kernel_rfl
      have d1 : Tryz.prog.cellsOf 64 = 1 := by kernel_rfl
      have d2 : Tryz.prog.cellsOf 65 = 1 := by kernel_rfl
      have d3 : Tryz.prog.cellsOf 66 = 1 := by kernel_rfl
      simp [c2, d1, d2, d3] at g0 g1 g2 g3
      obtain ⟨t0, e0, _, _⟩ := DataW.trod_int Tryz.underlying2 g0
      simp only [List.cons.injEq, and_true] at e0
      subst e0
      obtain ⟨ua, un, uc, rfl⟩ := slice_form Tryz.underlying64 g1
      obtain ⟨ma, mn, mc, rfl⟩ := slice_form Tryz.underlying65 g2
      obtain ⟨la, ln, lc, rfl⟩ := slice_form Tryz.underlying66 g3
      obtain ⟨us, hu⟩ := open_chgs g1
      obtain ⟨ms, hm1, hm2, hm3⟩ := open_nums g2
      obtain ⟨ls, hl1, hl2, hl3⟩ := open_keys g3
      have hu1 := hu.eq
      subst hu1 hm1 hl1
      have k0 := hcell 0 (by omega)
      have k1 := hcell 1 (by omega)
      have k2 := hcell 2 (by omega)
      have k3 := hcell 3 (by omega)
      rw [Go.Deep.add_add] at k0 k1 k2 k3
      exact ⟨(⟨t0, us, ms, ls⟩, (ua, uc), (ma, mc), (la, lc)), ⟨k0, k1, k2, k3⟩, hu.rd, hm3, hl3, by have := hu.ln; dsimp only; omega, hu.sz, hm2, hl2⟩
    obtain ⟨q, hq⟩ := Go.Deep.choose_lt each
    refine ⟨(List.range len).map (fun i => (q i).1), ?_, by simp, by omega, ?_⟩
    · by_cases h0 : len = 0
      · subst h0; exact .inl rfl
      · obtain ⟨b, off, spot⟩ := y
        have hc0 := (hq 0 (by omega)).1.1
        have hspot : spot = none := by simpa [Addr.add] using World.cell?_spot hc0
        subst hspot
        have ea : ∀ i, (⟨b, off, none⟩ : Addr).add i = ⟨b, off + i, none⟩ := by intro i; unfold Addr.add; split <;> simp_all
        refine .inr ⟨b, off, rfl, fun i r hr => ?_⟩
        obtain ⟨hi, rfl⟩ := list_of_fun (fun i => (q i).1) len hr
        obtain ⟨⟨k0, k1, k2, k3⟩, r1, r2, r3, _⟩ := hq i hi
        rw [ea] at k0 k1 k2 k3
        rw [← Nat.add_assoc] at k1 k2 k3
        exact ⟨_, _, _, _, _, _, k0, k1, k2, k3, r1, r2, r3⟩
    · intro r hr
      obtain ⟨i, hi, rfl⟩ := List.mem_map.1 hr
      exact (hq i (by simpa using hi)).2.2.2.2

end Go.Proofs.YtmboclfgldgefaaGreat

/-
  A plain one as it comes in.
-/
namespace Go.Proofs.YtmboclfgldgefaaGreat
open Go.ChangeShapes Go.WideShapes Go.ChangeAt Go.RowKit Go.Joins Go.Maps
set_option linter.unusedVariables false
set_option maxRecDepth 20000

set_option maxRecDepth 100000 in
theorem open_slice_form {H : Type} {enc : TypeId × Value → H} {W : World} {base : Nat} {held : Bool} {fuel : Nat} {T E : TypeId} {v : Value} {x : DataW H × List MemPlace} (hu : Tryz.prog.underlying T = some (.slice E))
    (h : DataW.trod enc Tryz.prog W base (fun _ => true) held fuel T [v] = some x) : ∃ a l c, v = .slice a l c := by
  rcases Go.Deep.open_slice hu h with ⟨hcs, _⟩ | ⟨y, l, c, m, n, Dd, Pl, hcs, _⟩
  · simp only [List.cons.injEq, and_true] at hcs
    exact ⟨_, _, _, hcs⟩
  · simp only [List.cons.injEq, and_true] at hcs
    exact ⟨_, _, _, hcs⟩
theorem three3 {α : Type} (xs : List α) (h : xs.length = 3) : ∃ a b c, xs = [a, b, c] := by
  match xs, h with
  | [a, b, c], _ => exact ⟨a, b, c, rfl⟩
set_option maxRecDepth 100000 in
theorem open_plain {H : Type} {enc : TypeId × Value → H} {W : World} {base bs : Nat} {held : Bool} {v : Value} {d : DataW H} {p : List MemPlace} (hv : Value.okWide Tryz.prog W .any base 25 v)
    (h : DataW.Trod enc Tryz.prog W bs (fun _ => true) held 25 v d p) : ∃ (ra : Option Addr) (rn rc : Nat) (a : Option Addr) (n c : Nat) (nx : Int) (rs : List Rw) (xs : List TxV), v = .agg #[.slice ra rn rc, .slice a n c, .int .i64 nx] ∧ IsRows W ra rn rs ∧ IsTxs W a n xs := by
  obtain ⟨cs, rfl, hsz⟩ := okWide_struct Tryz.underlying25 hv
  have c3 : Tryz.prog.cellsOf 25 = 3 := by kernel_rfl
  rw [c3] at hsz
  obtain ⟨fuel, h2⟩ := h
  obtain ⟨l⟩ := cs
  have hl : l.length = 3 := by simpa using hsz
  obtain ⟨v0, v1, v2, rfl⟩ := three3 l hl
  have h2 : DataW.trod enc Tryz.prog W bs (fun _ => true) held fuel 25 [v0, v1, v2] = some (d, p) := h2
  obtain ⟨ys, k, hk, hxy, _, hxl, hf⟩ := DataW.trod_struct Tryz.underlying25 h2
  have hx3 : ys.length = 3 := hxl
  clear hxl
  obtain ⟨y0, y1, y2, rfl⟩ := three3 ys hx3
  have g0 := hf 0 _ rfl
  have g1 := hf 1 _ rfl
  have g2 := hf 2 _ rfl
  have d0 : Tryz.prog.cellsOf 22 = 1 := by kernel_rfl
  have d1 : Tryz.prog.cellsOf 23 = 1 := by kernel_rfl
  have d2 : Tryz.prog.cellsOf 2 = 1 := by kernel_rfl
  simp [d0, d1, d2] at g0 g1 g2
  obtain ⟨ra, rn, rc, e0⟩ := open_slice_form Tryz.underlying22 g0
  obtain ⟨a, n, c, e1⟩ := open_slice_form Tryz.underlying23 g1
  obtain ⟨nx, e2, _⟩ := DataW.trod_int Tryz.underlying2 g2
  simp only [List.cons.injEq, and_true] at e2
  subst e0 e1 e2
  obtain ⟨rs, hrs⟩ := open_rows g0
  obtain ⟨xs, hxs⟩ := open_txs g1
  exact ⟨ra, rn, rc, a, n, c, nx, rs, xs, rfl, hrs, hxs⟩

end Go.Proofs.YtmboclfgldgefaaGreat
