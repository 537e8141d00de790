/-
  What all transactions did, taken back (plain facts): for PlainFault and CommittedOf.
-/
import Derived.Test.YtmboclfgldgefaaGreatCMLdo
import Derived.Test.YtmboclfgldgefaaGreatCMIvs
import Derived.Test.YtmboclfgldgefaaGreatCMIxt
import Derived.Test.YtmboclfgldgefaaGreatCMRmo

namespace Go.Proofs.YtmboclfgldgefaaGreat
open Go.RowKit Go.Maps
set_option linter.unusedVariables false
set_option maxRecDepth 20000

def undL (xs : List TxV) : List Chg := xs.flatMap fun x => bkL x.u 0
def undR : List Rw → List Chg → Option (List Rw)
  | rs, [] => some rs
  | rs, c :: l => if fitB rs c = true then undR (doL rs c) l else none
theorem undR_cons (rs : List Rw) (c : Chg) (l : List Chg) : undR rs (c :: l) = if fitB rs c = true then undR (doL rs c) l else none := rfl
theorem undR_append : ∀ (l1 l2 : List Chg) (rs : List Rw), undR rs (l1 ++ l2) = (undR rs l1).bind fun r => undR r l2
  | [], _, _ => rfl
  | c :: l, l2, rs => by
    show (if fitB rs c = true then undR (doL rs c) (l ++ l2) else none) = _
    rw [undR_append l l2]
    show _ = (if fitB rs c = true then undR (doL rs c) l else none).bind _
    split <;> rfl
theorem undR_snoc {rs m : List Rw} {l : List Chg} {c : Chg} (h : undR rs l = some m) : undR rs (l ++ [c]) = if fitB m c = true then some (doL m c) else none := by
  rw [undR_append, h]
  show undR m [c] = _
  unfold undR
  split <;> rfl
theorem undR_stop {rs m : List Rw} {l l2 : List Chg} {c : Chg} (h : undR rs l = some m) (hc : fitB m c = false) : undR rs (l ++ c :: l2) = none := by
  rw [undR_append, h]
  show undR m (c :: l2) = _
  unfold undR
  rw [hc]; simp
theorem apR_undR : ∀ {cs : List Chg} {rs : List Rw}, (∀ c ∈ cs, chQ c = 0) → apR rs cs = match undR rs cs with | some l => (0, l) | none => (8, [])
  | [], rs, _ => rfl
  | c :: l, rs, h => by
    rw [apR_cons, if_pos (h c (List.mem_cons_self ..)), undR_cons]
    by_cases hf : fitB rs c = true
    · rw [if_pos hf, if_pos hf]
      exact apR_undR fun x hx => h x (List.mem_cons_of_mem _ hx)
    · rw [if_neg hf, if_neg hf]
theorem undR_ok : ∀ {cs : List Chg} {rs m : List Rw}, RisL rs → (∀ c ∈ cs, chQ c = 0) → undR rs cs = some m → RisL m ∧ m.length ≤ rs.length + cs.length
  | [], rs, m, hr, _, h => by
    have e : rs = m := Option.some.inj h
    subst e
    exact ⟨hr, by simp⟩
  | c :: l, rs, m, hr, hc, h => by
    have h' : (if fitB rs c = true then undR (doL rs c) l else none) = some m := h
    split at h'
    · have hq := hc c (List.mem_cons_self ..)
      obtain ⟨h1, h2⟩ := undR_ok (doL_ok hr hq) (fun x hx => hc x (List.mem_cons_of_mem _ hx)) h'
      refine ⟨h1, ?_⟩
      have h3 := doL_len (c := c) hr
      have h4 : (doL rs c).length ≤ rs.length + 1 := by rw [h3]; split <;> split <;> omega
      rw [List.length_cons]
      omega
    · cases h'
theorem chQ_inv {c : Chg} (h : chQ c = 0) : chQ (inv c) = 0 := by
  obtain ⟨h1, h2, h3, h4⟩ := chQ_zero h
  obtain ⟨cw, cb, ci, ca⟩ := c
  unfold chQ inv
  dsimp only at h1 h2 h3 h4 ⊢
  cases cw <;> cases ci <;> simp_all
theorem bkL_ok {cs : List Chg} (h : ∀ c ∈ cs, alQ c = 0) : ∀ c ∈ bkL cs 0, chQ c = 0 := fun c hc => by
  rw [bkL_zero, List.mem_reverse, List.mem_map] at hc
  obtain ⟨d, hd, rfl⟩ := hc
  exact chQ_inv (alQ_zero (h d hd)).1
theorem bkL_size {cs : List Chg} {m : Nat} (h : ∀ c ∈ cs, c.b.s.size ≤ m ∧ c.a.s.size ≤ m) : ∀ c ∈ bkL cs 0, c.b.s.size ≤ m ∧ c.a.s.size ≤ m := fun c hc => by
  rw [bkL_zero, List.mem_reverse, List.mem_map] at hc
  obtain ⟨d, hd, rfl⟩ := hc
  exact ⟨(h d hd).2, (h d hd).1⟩

/-- What is so of transactions without a fault. -/
theorem txs_parts {xs : List TxV} (h : txsQ xs = 0) : xs.length ≤ 4 ∧ (∀ i, i < xs.length → txAt xs i = 0) ∧ cntU xs ≤ 12 := by
  unfold txsQ at h
  split at h
  · cases h
  · rename_i h4
    split at h
    · rename_i hf
      split at h
      · split at h
        · cases h
        · exact ⟨by omega, rng_zero hf, by omega⟩
      · cases h
    · rename_i hf
      exact absurd h hf
theorem unQ_al {l : List K2} {c : Chg} (h : unQ l c = 0) : alQ c = 0 := by
  unfold unQ at h
  split at h
  · assumption
  · rename_i h1
    exact absurd h h1
theorem txs_al {xs : List TxV} (h : txsQ xs = 0) : ∀ x ∈ xs, ∀ c ∈ x.u, alQ c = 0 := fun x hx c hc => by
  obtain ⟨_, hall, _⟩ := txs_parts h
  obtain ⟨i, hi, rfl⟩ := List.mem_iff_getElem.1 hx
  have ha := (txs_at hi (hall i hi)).2
  unfold alnQ at ha
  split at ha
  · rename_i h0
    exact unQ_al (fst_zero h0 c hc)
  · rename_i h0
    exact absurd ha h0
theorem cntU_mem : ∀ {xs : List TxV} {x : TxV}, x ∈ xs → x.u.length ≤ cntU xs
  | [], _, h => by simp at h
  | y :: ys, x, h => by
    have e : cntU (y :: ys) = y.u.length + cntU ys := by simp [cntU]
    rw [e]
    rcases List.mem_cons.1 h with rfl | h
    · omega
    · have := cntU_mem h; omega
theorem undL_len : ∀ xs : List TxV, (undL xs).length = cntU xs
  | [] => rfl
  | x :: xs => by
    have e : undL (x :: xs) = bkL x.u 0 ++ undL xs := by simp [undL]
    have e2 : cntU (x :: xs) = x.u.length + cntU xs := by simp [cntU]
    rw [e, List.length_append, undL_len xs, bkL_len, e2]
    omega
theorem undL_snoc {xs : List TxV} {j : Nat} {x : TxV} (h : xs[j]? = some x) : undL (xs.take (j + 1)) = undL (xs.take j) ++ bkL x.u 0 := by
  unfold undL
  rw [take_snoc h]
  simp
theorem undL_split {xs : List TxV} {j : Nat} {x : TxV} (h : xs[j]? = some x) : undL xs = undL (xs.take j) ++ (bkL x.u 0 ++ undL (xs.drop (j + 1))) := by
  obtain ⟨hl, e⟩ := List.getElem?_eq_some_iff.1 h
  have h1 : xs = xs.take j ++ x :: xs.drop (j + 1) := by
    rw [← e, ← List.drop_eq_getElem_cons hl, List.take_append_drop]
  have h2 : undL (xs.take j ++ x :: xs.drop (j + 1)) = undL (xs.take j) ++ (bkL x.u 0 ++ undL (xs.drop (j + 1))) := by
    unfold undL
    simp
  rw [← h2, ← h1]
theorem undL_none {rs m : List Rw} {xs : List TxV} {j : Nat} {x : TxV} (h : xs[j]? = some x) (hm : undR rs (undL (xs.take j)) = some m) (hn : undR m (bkL x.u 0) = none) : undR rs (undL xs) = none := by
  rw [undL_split h, undR_append, hm]
  show undR m (bkL x.u 0 ++ undL (xs.drop (j + 1))) = none
  rw [undR_append, hn]
  rfl
theorem undL_next {rs m m2 : List Rw} {xs : List TxV} {j : Nat} {x : TxV} (h : xs[j]? = some x) (hm : undR rs (undL (xs.take j)) = some m) (hn : undR m (bkL x.u 0) = some m2) : undR rs (undL (xs.take (j + 1))) = some m2 := by
  rw [undL_snoc h, undR_append, hm]
  exact hn
theorem undL_ok {xs : List TxV} (h : ∀ x ∈ xs, ∀ c ∈ x.u, alQ c = 0) : ∀ c ∈ undL xs, chQ c = 0 := fun c hc => by
  unfold undL at hc
  obtain ⟨x, hx, hc⟩ := List.mem_flatMap.1 hc
  exact bkL_ok (h x hx) c hc
theorem undL_size {xs : List TxV} {m : Nat} (h : ∀ x ∈ xs, TxOk m x) : ∀ c ∈ undL xs, c.b.s.size ≤ m ∧ c.a.s.size ≤ m := fun c hc => by
  unfold undL at hc
  obtain ⟨x, hx, hc⟩ := List.mem_flatMap.1 hc
  exact bkL_size (h x hx).2.1 c hc
theorem take_mem {xs : List TxV} {P : TxV → Prop} (h : ∀ x ∈ xs, P x) (j : Nat) : ∀ x ∈ xs.take j, P x := fun x hx => h x (List.mem_of_mem_take hx)

/-- Rows of different keys take a place each. -/
theorem withL_grow (L : List K2) (k : K2) : L.length ≤ (withL L k).length := by
  unfold withL
  split <;> simp
theorem fold_grow : ∀ (ks L : List K2), L.length ≤ (ks.foldl withL L).length
  | [], L => Nat.le_refl _
  | k :: ks, L => Nat.le_trans (withL_grow L k) (fold_grow ks (withL L k))
theorem fold_new : ∀ (ks L : List K2), ks.Nodup → (∀ k ∈ ks, k ∉ L) → (ks.foldl withL L).length = L.length + ks.length
  | [], L, _, _ => rfl
  | k :: ks, L, hd, hn => by
    have hk : hasK L k = false := hasK_false.2 (hn k (List.mem_cons_self ..))
    have e : withL L k = L ++ [k] := by unfold withL; rw [hk]; simp
    show (ks.foldl withL (withL L k)).length = _
    rw [e, fold_new ks (L ++ [k]) (List.nodup_cons.1 hd).2, List.length_append, List.length_cons]
    · simp; omega
    · intro q hq hm
      rcases List.mem_append.1 hm with hm | hm
      · exact hn q (List.mem_cons_of_mem _ hq) hm
      · rw [List.mem_singleton.1 hm] at hq
        exact (List.nodup_cons.1 hd).1 hq
theorem allRK_rows {rs : List Rw} (hr : RisL rs) (xs : List TxV) : rs.length ≤ (allRK rs xs).length := by
  have h1 : (rowK rs).length = rs.length := by
    unfold rowK
    rw [fold_new (rs.map kyR) [] ?_ (fun k _ h => by simp at h)]
    · simp
    · refine List.Pairwise.map _ (fun a b hab e => ?_) hr.1
      have e1 : a.t = b.t := congrArg K2.x e
      have e2 : a.k = b.k := congrArg K2.y e
      unfold rLt at hab
      omega
  have h2 : ∀ (xs : List TxV) (L : List K2), L.length ≤ (xs.foldl (fun L x => x.l.foldl withL L) L).length := by
    intro xs
    induction xs with
    | nil => intro L; exact Nat.le_refl _
    | cons x xs ih => intro L; exact Nat.le_trans (fold_grow x.l L) (ih (x.l.foldl withL L))
  have h3 := h2 xs (rowK rs)
  unfold allRK
  omega

/-- The code of a plain one. -/
def pnQ (rs : List Rw) (xs : List TxV) (nx : Int) : Int :=
  if rowsQ rs = 0 then (if txsQ xs = 0 then (if nxQ nx xs = 0 then (if 12 < (allRK rs xs).length then 2 else if (undR rs (undL xs)).isSome = true then 0 else 8) else 3) else txsQ xs) else rowsQ rs
/-- Whether the last one's number is too great. -/
def lastB (xs : List TxV) (nx : Int) : Bool := match xs.getLast? with
  | none => false
  | some x => decide (x.id ≥ nx)
theorem nx_last {xs : List TxV} {nx : Int} (h : txsQ xs = 0) : nxQ nx xs = if inW nx 1 100 = true ∧ lastB xs nx = false then 0 else 3 := by
  obtain ⟨_, hall, _⟩ := txs_parts h
  have key : (0 ≤ ixT (fun i : Int => decide (i ≥ nx)) xs) ↔ lastB xs nx = true := by
    constructor
    · intro h0
      obtain ⟨j, x, h1, h2, h3⟩ := ixT_at h0
      obtain ⟨hj, hx⟩ := List.getElem?_eq_some_iff.1 h1
      have hne : xs ≠ [] := fun e => by rw [e] at h1; simp at h1
      unfold lastB
      rw [List.getLast?_eq_some_getLast hne]
      have h3' : x.id ≥ nx := by simpa using h3
      have hl : xs.getLast hne = xs[xs.length - 1]'(by omega) := List.getLast_eq_getElem hne
      have h4 : x.id ≤ (xs.getLast hne).id := by
        rw [hl, ← hx]
        by_cases e : j = xs.length - 1
        · subst e; exact Int.le_refl _
        · exact Int.le_of_lt (txs_rise hall (xs.length - 1) (by omega) j (by omega))
      simp
      omega
    · intro h0
      by_cases hi : 0 ≤ ixT (fun i : Int => decide (i ≥ nx)) xs
      · exact hi
      · unfold lastB at h0
        split at h0
        · cases h0
        · rename_i x hx
          have hm := List.mem_of_getLast? hx
          have := ixT_neg (p := fun i : Int => decide (i ≥ nx)) (xs := xs) (by omega) x hm
          simp at this h0
          omega
  unfold nxQ
  by_cases h1 : inW nx 1 100 = true
  · rw [if_pos h1]
    by_cases h2 : lastB xs nx = true
    · rw [if_pos (key.2 h2), if_neg (by rw [h2]; simp)]
    · rw [if_neg (fun h => h2 (key.1 h)), if_pos ⟨h1, by simpa using h2⟩]
  · rw [if_neg h1, if_neg (fun h => h1 h.1)]
/-- The code of ApplyChanges of all that is taken back. -/
theorem ac_und {rs : List Rw} {xs : List TxV} (h1 : rowsQ rs = 0) (h2 : txsQ xs = 0) (h3 : ¬ 12 < (allRK rs xs).length) : acQ rs (undL xs) = if (undR rs (undL xs)).isSome = true then 0 else 8 := by
  have hq := undL_ok (txs_al h2)
  obtain ⟨_, _, hc⟩ := txs_parts h2
  obtain ⟨hr, _⟩ := rowsQ_ris h1
  have h4 := allRK_rows hr xs
  unfold acQ
  rw [if_pos h1, apR_undR hq]
  cases hu : undR rs (undL xs) with
  | none => simp
  | some m =>
    obtain ⟨_, h5⟩ := undR_ok hr hq hu
    rw [undL_len] at h5
    simp
    omega
theorem ac_undL {rs : List Rw} {xs : List TxV} {m : List Rw} (h1 : rowsQ rs = 0) (h2 : txsQ xs = 0) (h3 : ¬ 12 < (allRK rs xs).length) (hu : undR rs (undL xs) = some m) : acL rs (undL xs) = m := by
  have e := ac_und h1 h2 h3
  rw [hu] at e
  unfold acL
  rw [if_pos (by simpa using e), apR_undR (undL_ok (txs_al h2)), hu]

end Go.Proofs.YtmboclfgldgefaaGreat

/-
  The model's l11Undo and l11Back: rows without what transactions did.
-/
namespace Go.Proofs.YtmboclfgldgefaaGreat
open Go.RowKit Go.Maps
set_option linter.unusedVariables false
set_option maxRecDepth 20000

/-- What they hand back. -/
def UnPost (B : Nat) (rs : List Rw) (cs : List Chg) (w : World) (e : Ending) (w' : World) : Prop :=
  Below w.heap.size w w' ∧ ((undR rs cs = none ∧ e = .returned (.tuple #[.slice none 0 0, .bool false])) ∨ ∃ l g z c, undR rs cs = some l ∧ e = .returned (.tuple #[.slice (some ⟨g, z, none⟩) l.length c, .bool true]) ∧ Rs rwE 4 w' (some ⟨g, z, none⟩) l ∧ B ≤ g)

set_option maxHeartbeats 4000000 in
theorem l11Undo_any (B g z n c : Nat) (rs : List Rw) (ua : Option Addr) (us : List Chg) (un uc : Nat) (w : World) (hn : rs.length = n) (hri : RisL rs) (hR : Rs rwE 4 w (some ⟨g, z, none⟩) rs) (hu : us.length = un) (hum : un ≤ 60) (hal : ∀ x ∈ us, alQ x = 0) (hU : Rs chE 10 w ua us) (hB : B ≤ w.heap.size) (hg : B ≤ g) :
    Calls Tryz.prog 56 #[.slice (some ⟨g, z, none⟩) n c, .slice ua un uc] w fun e w' => UnPost B rs (bkL us 0) w e w' := by
  have HCq : Hid (∀ x ∈ bkL us 0, chQ x = 0) := bkL_ok hal
  have hinv := l10Inverse_any ua us un uc w hu hum hU
  have HRi : Hid (RisL rs) := hri
  have HR : Hid (∀ V, Below w.heap.size w V → Rs rwE 4 V (some ⟨g, z, none⟩) rs) := fun V hV => hR.below hV (Nat.le_refl _)
  have hbl : (bkL us 0).length = un := by rw [bkL_len, hu]; omega
  have HBl : Hid ((bkL us 0).length = un) := hbl
  have HN : Hid (rs.length = n) := hn
  have HGB : Hid (B ≤ g) := hg
  have HBW : Hid (B ≤ w.heap.size) := hB
  clear hri hR hu hal hU hn hg hB
  rw [hbl] at hinv
  clear hbl
  generalize bkL us 0 = cs at HCq hinv HBl ⊢
  go_enter Tryz.func56, Tryz.ntmps56
  go_wp2_with fail
  refine hinv.mono ?_
  rintro e w1 ⟨v, rfl, g1, ho⟩
  obtain ⟨va, vc, rfl, _, hin, _⟩ := SlIn.ofRow chE_len (by rw [HBl.out]; exact ho)
  have HB : Hid (∀ V, Below w1.heap.size w1 V → Rs chE 10 V va cs) := fun V hV => hin.reads.below hV (Nat.le_refl _)
  have hR1 := HR.out w1 g1
  clear ho hin hinv
  rw [HBl.out]
  go_wp2_with fail
  go_loopw [7, 0] (fun i v wr => ∃ (j g z c : Nat) (cur : List Rw), j ≤ un ∧ i = .int .i64 j ∧ v = .slice (some ⟨g, z, none⟩) cur.length c ∧ Below w1.heap.size w1 wr ∧ Rs rwE 4 wr (some ⟨g, z, none⟩) cur ∧ Hid (RisL cur) ∧ Hid (undR rs (cs.take j) = some cur) ∧ Hid (B ≤ g)) (fun i _ _ => un - (intOf i).toNat)
  case atStart => exact ⟨0, g, z, c, rs, Nat.zero_le _, rfl, by rw [HN.out], Below.refl _ _, hR1, HRi, rfl, HGB⟩
  case round =>
    obtain ⟨j, g, z, c, cur, hj, rfl, rfl, gr, hRc, hri, hun, hgb⟩ := hrel
    clear hR1 HGB
    by_cases hlt : j < un
    · obtain ⟨x, hx⟩ : ∃ x, cs[j]? = some x := ⟨_, List.getElem?_eq_getElem (by rw [HBl.out]; exact hlt)⟩
      obtain ⟨b, off, e0, X'⟩ := (HB.out _ gr).chg hx
      obtain rfl := e0
      have hjn : (j : Int) < (un : Int) := by omega
      have hq := HCq.out x (List.mem_of_getElem? hx)
      have hcl := hri.out.len
      have hdo := l6Do_any g z cur.length c cur b (off + j * 10) x wr rfl (by omega) hri.out.1 hq hRc X'
      have HS : Hid (undR rs (cs.take (j + 1)) = if fitB cur x = true then some (doL cur x) else none) := by show _ = _; rw [take_snoc hx]; exact undR_snoc hun.out
      have HF : Hid (fitB cur x = false → undR rs cs = none) := fun hf => by
        have e := undR_stop (l2 := cs.drop (j + 1)) hun.out hf
        rwa [← drop_chg hx, List.take_append_drop] at e
      have HRi2 : Hid (RisL (doL cur x)) := doL_ok hri.out hq
      clear hx hq X' hRc hri hun hcl
      generalize cur.length = cn at hdo ⊢
      rcases Bool.eq_false_or_eq_true (fitB cur x) with hft | hft
      · have HFt : Hid (fitB cur x = true) := hft
        have HS2 : Hid (undR rs (cs.take (j + 1)) = some (doL cur x)) := by show _ = _; rw [HS.out, if_pos hft]
        have hdo2 : Calls Tryz.prog 92 #[.slice (some ⟨g, z, none⟩) cn c, .pointer (some ⟨b, off + j * 10, none⟩)] wr fun e w' => ∃ g cap, e = .returned (.tuple #[.slice (some ⟨g, 0, none⟩) (doL cur x).length cap, .bool true]) ∧ Below wr.heap.size wr w' ∧ Rs rwE 4 w' (some ⟨g, 0, none⟩) (doL cur x) ∧ Hid (wr.heap.size ≤ g) := hdo.mono (fun e w' h => by
          rcases h with ⟨hb, h | ⟨_, g, cap, h2, h3⟩⟩
          · exact absurd (h.1.symm.trans HFt.out) (by decide)
          · refine ⟨g, cap, h2, hb, ?_, (World.ownsRow.lt h3 g rfl).1⟩
            obtain ⟨ka, kc', e', hcap, hin, _⟩ := SlIn.ofRow rwE_len h3
            cases e'
            exact hin.reads)
        clear hdo hft HF HS
        generalize doL cur x = nw at hdo2 HRi2 HS2
        go_wp2_with (go_at_call 92; refine hdo2.mono ?_; rintro e w8 ⟨g8, c8, rfl, b8, o8, hg8⟩)
        have g8' := gr.trans (b8.mono gr.size)
        have hg8' : Hid (B ≤ g8) := Nat.le_trans (Nat.le_trans HBW.out (Nat.le_trans g1.size gr.size)) hg8.out
        clear hdo2
        go_wp2_with fail
        go_roundw
        case rel => exact ⟨j + 1, g8, 0, c8, nw, by omega, by go_num, rfl, g8', o8, HRi2, HS2, hg8'⟩
        case measure => simp [intOf]; omega
      · have HFt : Hid (fitB cur x = false) := hft
        have hdo2 : Calls Tryz.prog 92 #[.slice (some ⟨g, z, none⟩) cn c, .pointer (some ⟨b, off + j * 10, none⟩)] wr fun e w' => e = .returned (.tuple #[.slice none 0 0, .bool false]) ∧ Below wr.heap.size wr w' := hdo.mono (fun e w' h => by
          rcases h with ⟨hb, h | ⟨h, _⟩⟩
          · exact ⟨h.2, hb⟩
          · exact absurd (h.symm.trans HFt.out) (by decide))
        clear hdo hft HRi2 HS
        go_wp2_with (go_at_call 92; refine hdo2.mono ?_; rintro e w8 ⟨rfl, b8⟩)
        have g8' := gr.trans (b8.mono gr.size)
        clear hdo2
        go_wp2_with fail
        refine bodyPost_ret (v := .tuple #[.slice none 0 0, .bool false]) (by simp [results, Tryz.results56, go_sem, *]) rfl ?_
        exact ⟨g1.trans (g8'.mono g1.size), .inl ⟨HF.out HFt.out, rfl⟩⟩
    · have e : j = un := by omega
      subst e
      have HE : Hid (undR rs cs = some cur) := by
        have h := hun.out
        rw [List.take_of_length_le (by rw [HBl.out]; exact Nat.le_refl _)] at h
        exact h
      have HRc : Hid (Rs rwE 4 wr (some ⟨g, z, none⟩) cur) := hRc
      clear hun hri hRc
      obtain ⟨cn, hcn⟩ : ∃ cn, cur.length = cn := ⟨_, rfl⟩
      have HCn : Hid (cur.length = cn) := hcn
      rw [hcn]
      clear hcn
      go_wp2_with fail
      refine bodyPost_ret (v := .tuple #[.slice (some ⟨g, z, none⟩) cn c, .bool true]) (by simp [results, Tryz.results56, go_sem, *]) rfl ?_
      exact ⟨g1.trans (gr.mono g1.size), .inr ⟨cur, g, z, c, HE.out, by rw [HCn.out], HRc.out, hgb.out⟩⟩

set_option maxHeartbeats 4000000 in
theorem l11Back_any (ra : Option Addr) (rs : List Rw) (rn rc : Nat) (a : Option Addr) (xs : List TxV) (n c : Nat) (w : World) (hrn : rs.length = rn) (hri : RisL rs) (hr : Rs rwE 4 w ra rs) (hn : xs.length = n) (ht : txsQ xs = 0) (hx : TxRd w a xs) :
    Calls Tryz.prog 29 #[.slice ra rn rc, .slice a n c] w fun e w' => UnPost w.heap.size rs (undL xs) w e w' := by
  have HRi : Hid (RisL rs) := hri
  have HRn : Hid (rs.length = rn) := hrn
  have HN : Hid (xs.length = n) := hn
  have HB : Hid (∀ V, Below w.heap.size w V → Rs rwE 4 V ra rs) := fun V hV => hr.below hV (Nat.le_refl _)
  have HX : Hid (∀ V, Below w.heap.size w V → TxRd V a xs) := fun V hV => hx.below hV (Nat.le_refl _)
  have HA : Hid (∀ x ∈ xs, x.u.length ≤ 60 ∧ ∀ c ∈ x.u, alQ c = 0) := fun x hx => ⟨by have h1 := cntU_mem hx; have h2 := (txs_parts ht).2.2; omega, txs_al ht x hx⟩
  have hn4 : n ≤ 4 := by rw [← hn]; exact (txs_parts ht).1
  have h400 := hri.len
  have gA : Below w.heap.size w (w.alloc (.cells #[] 76)) := by go_grown
  have hT2 := HB.out _ gA
  have hL : (w.alloc (.cells #[] 76)).ownsRow w.heap.size 76 4 (.slice (some ⟨w.heap.size, 0, none⟩) 0 0) ([] : List Rw).length (flat rwE []) := ownsRow_lit0 w 76 4
  have hn1 : Hid (([] : List Rw).length + rs.length ≤ 100000000) := by show _ ≤ _; rw [List.length_nil]; omega
  have hn2 : Hid (w.heap.size ≤ (w.alloc (.cells #[] 76)).heap.size) := by show _ ≤ _; simp
  clear hrn hri hr hn hx ht h400
  go_enter Tryz.func29, Tryz.ntmps29
  go_wp2_with (at_builtin; refine wpList_append_sl elW _ rfl _ _ rfl w.heap.size _ [] rs ra rn rc rfl rfl HRn.out hL hT2 hn1.out hn2.out ?_)
  intro v3 w3 ho3 hg3 hbk
  have g3 : Below w.heap.size w w3 := Below.grown gA hg3 (by simp) (fun q e => (World.ownsRow.lt hL q e).1)
  obtain ⟨kg, kc, rfl⟩ := ownsRow_some ho3 (by rcases hbk with h | h <;> rw [h] <;> simp [Value.ownBlock])
  have ho4 : w3.ownsRow w.heap.size 76 4 (.slice (some ⟨kg, 0, none⟩) rs.length kc) rs.length (flat rwE rs) := ho3
  have hkg : Hid (w.heap.size ≤ kg) := (World.ownsRow.lt ho4 kg rfl).1
  have HO3 : Hid (Rs rwE 4 w3 (some ⟨kg, 0, none⟩) rs) := by
    obtain ⟨ka, kc', e', hcap, hin, _⟩ := SlIn.ofRow rwE_len ho4
    cases e'
    exact hin.reads
  clear hg3 hbk hT2 hL gA ho3 ho4
  rw [HRn.out]
  go_wp2_with fail
  go_loopw [7, 6] (fun i v wr => ∃ (j g z c : Nat) (cur : List Rw), j ≤ n ∧ i = .int .i64 j ∧ v = .slice (some ⟨g, z, none⟩) cur.length c ∧ Below w.heap.size w wr ∧ Rs rwE 4 wr (some ⟨g, z, none⟩) cur ∧ Hid (RisL cur) ∧ Hid (undR rs (undL (xs.take j)) = some cur) ∧ Hid (w.heap.size ≤ g)) (fun i _ _ => n - (intOf i).toNat)
  case atStart => exact ⟨0, kg, 0, kc, rs, Nat.zero_le _, rfl, by rw [HRn.out], g3, HO3.out, HRi, rfl, hkg⟩
  case round =>
    obtain ⟨j, g, z, c', cur, hj, rfl, rfl, gr, hRc, hri, hun, hgb⟩ := hrel
    clear HO3 g3 hkg
    by_cases hlt : j < n
    · obtain ⟨x, hx⟩ := at_ltT (xs := xs) (i := j) (by rw [HN.out]; exact hlt)
      obtain ⟨b, off, ua, ma, la, uc, mc, lc, e0, Z⟩ := (HX.out wr gr).at hx
      obtain rfl := e0
      have hjn : (j : Int) < (n : Int) := by omega
      obtain ⟨hxu, hal⟩ := HA.out x (List.mem_of_getElem? hx)
      have HS : Hid (∀ m, undR cur (bkL x.u 0) = some m → undR rs (undL (xs.take (j + 1))) = some m) := fun m h => undL_next hx hun.out h
      have HF : Hid (undR cur (bkL x.u 0) = none → undR rs (undL xs) = none) := fun h => undL_none hx hun.out h
      have HRi2 : Hid (∀ m, undR cur (bkL x.u 0) = some m → RisL m) := fun m h => (undR_ok hri.out (bkL_ok hal) h).1
      obtain ⟨id, us, ms, ls⟩ := x
      obtain ⟨c0, c1, c2, c3, hu, _, _⟩ := Z
      dsimp only at c0 c1 c2 c3 hu hxu hal HS HF HRi2
      have hcon := l11Undo_any w.heap.size g z cur.length c' cur ua us us.length uc wr rfl hri.out hRc rfl hxu hal hu gr.size hgb.out
      generalize bkL us 0 = bs at hcon HS HF HRi2
      generalize us.length = un at hcon c1
      generalize cur.length = cn at hcon ⊢
      clear hx hri hRc hun hu hal hxu
      have hcon2 : Calls Tryz.prog 56 #[.slice (some ⟨g, z, none⟩) cn c', .slice ua un uc] wr fun e w' => Below wr.heap.size wr w' ∧ ∃ (ok : Bool) (l : List Rw) (g z c ln : Nat), (ok = true → undR cur bs = some l ∧ Rs rwE 4 w' (some ⟨g, z, none⟩) l ∧ l.length = ln ∧ w.heap.size ≤ g) ∧ (ok = false → undR cur bs = none) ∧ e = .returned (.tuple #[if ok = true then .slice (some ⟨g, z, none⟩) ln c else .slice none 0 0, .bool ok]) := hcon.mono (fun e w' h => by
        obtain ⟨hb, ⟨h1, h2⟩ | ⟨l, g, z, c, h1, h2, h3, h4⟩⟩ := h
        · exact ⟨hb, false, [], 0, 0, 0, 0, (fun h => by cases h), (fun _ => h1), h2⟩
        · exact ⟨hb, true, l, g, z, c, l.length, (fun _ => ⟨h1, h3, rfl, h4⟩), (fun h => by cases h), h2⟩)
      clear hcon
      go_wp2_with fail
      refine hcon2.mono ?_
      rintro e w8 ⟨b8, ok, l, g8, z8, c8, ln, hok, hno, rfl⟩
      have g8' := gr.trans (b8.mono gr.size)
      clear hcon2 c0 c1 c2 c3 b8
      cases ok
      · have HF2 : Hid (undR rs (undL xs) = none) := HF.out (hno rfl)
        clear hok hno HS HRi2 HF
        go_wp2_with fail
        refine bodyPost_ret (v := .tuple #[.slice none 0 0, .bool false]) (by simp [results, Tryz.results29, go_sem, *]) rfl ?_
        exact ⟨g8', .inl ⟨HF2.out, rfl⟩⟩
      · obtain ⟨h1, h2, h3, h4⟩ := hok rfl
        have hg8 : Hid (w.heap.size ≤ g8) := h4
        have HS2 := HS.out l h1
        have HS3 : Hid (undR rs (undL (xs.take (j + 1))) = some l) := HS2
        have HRi3 : Hid (RisL l) := HRi2.out l h1
        clear hok hno HS HRi2 HF h1 HS2 h4
        go_wp2_with fail
        go_roundw
        case rel => exact ⟨j + 1, g8, z8, c8, l, by omega, by go_num, by rw [h3], g8', h2, HRi3, HS3, hg8⟩
        case measure => simp [intOf]; omega
    · have e : j = n := by omega
      subst e
      have HE : Hid (undR rs (undL xs) = some cur) := by
        have h := hun.out
        rw [List.take_of_length_le (by rw [HN.out]; exact Nat.le_refl _)] at h
        exact h
      have HRc : Hid (Rs rwE 4 wr (some ⟨g, z, none⟩) cur) := hRc
      clear hun hri hRc
      obtain ⟨cn, hcn⟩ : ∃ cn, cur.length = cn := ⟨_, rfl⟩
      have HCn : Hid (cur.length = cn) := hcn
      rw [hcn]
      clear hcn
      go_wp2_with fail
      refine bodyPost_ret (v := .tuple #[.slice (some ⟨g, z, none⟩) cn c', .bool true]) (by simp [results, Tryz.results29, go_sem, *]) rfl ?_
      exact ⟨gr, .inr ⟨cur, g, z, c', HE.out, by rw [HCn.out], HRc.out, hgb.out⟩⟩

end Go.Proofs.YtmboclfgldgefaaGreat
