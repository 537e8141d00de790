/-
  What DeleteEdits answers is not too much.
-/
import Derived.Test.YtnfolgoloaeanaaGreatUIde
import Derived.Test.YtnfolgoloaeanaaGreatULpl
import Derived.Test.YtnfolgoloaeanaaGreatULpi
import Derived.Test.YtnfolgoloaeanaaGreatUFnr
import Derived.Test.YtnfolgoloaeanaaGreatULtu
import Derived.Test.YtnfolgoloaeanaaGreatUBy

namespace Go.Proofs.YtnfolgoloaeanaaGreat
open Go.RowKit
set_option linter.unusedVariables false

theorem view_pages {ps : List (List Int)} (hp : PgOk ps) (h : viewQ ps = 0) : ps.length ≤ 12 ∧ ∀ zs ∈ ps, Fine zs := by
  obtain ⟨h1, _, h2, _⟩ := view_zero h
  exact ⟨h1, fun zs hz => fine_of (hp zs hz).2 (pageC_fine (pagesQ_zero h2 zs hz)).1⟩
theorem PartP.readsN {w : World} {g n : Nat} {ps : List (List Int)} {F : Nat → Nat} (h : PartP w g n n ps F) (hn : ps.length = n) : PgRdN w (some ⟨g, 0, none⟩) ps := by
  refine .inr ⟨g, 0, rfl, fun i zs hz => ?_⟩
  have hi : i < n := by rw [← hn]; exact (List.getElem?_eq_some_iff.1 hz).1
  obtain ⟨h1, h2⟩ := h.c i zs hi hz
  exact ⟨_, _, by rw [Nat.zero_add]; exact h1, Nat.le_refl _, h2.reads⟩


section
variable {ps : List (List Int)} {t k v : Int} {s : ByteArray}
end

theorem cellB_len (f t k v : Int) (s : ByteArray) : (cellBytes f t k v s).length = 6 + s.size := by
  simp [cellBytes]
  omega
theorem cellB_bd {f t k v : Int} {s : ByteArray} (f0 : 0 ≤ f) (f1 : f ≤ 2) (t0 : 0 ≤ t) (t1 : t ≤ 3) (k0 : 1 ≤ k) (k1 : k ≤ 99) (v0 : 0 ≤ v) (v1 : v ≤ 999) (hs : s.size ≤ 8) : ∀ z ∈ cellBytes f t k v s, 0 ≤ z ∧ z ≤ 255 := by
  intro z hz
  unfold cellBytes at hz
  rcases List.mem_append.1 hz with h | h
  · simp only [List.mem_cons, List.not_mem_nil, or_false] at h
    rcases h with h | h | h | h | h | h <;> omega
  · obtain ⟨b, _, rfl⟩ := List.mem_map.1 h
    have := b.toNat_lt
    omega
/-- A row without a fault is within its bounds. -/
theorem fault_bounds {t k v : Int} {s : ByteArray} (h : faultI t k v s = 0) : (0 ≤ t ∧ t ≤ 3) ∧ (1 ≤ k ∧ k ≤ 99) ∧ (0 ≤ v ∧ v ≤ 999) ∧ s.size ≤ 8 := by
  unfold faultI at h
  split at h
  · rename_i h1
    split at h
    · rename_i h2
      simp only [rngB, inW, txtB, Bool.and_eq_true, decide_eq_true_eq] at h1 h2
      exact ⟨h1.1.1, h1.1.2, h1.2, h2.1⟩
    · exact absurd h (by decide)
  · exact absurd h (by decide)
theorem key_in {t k : Int} (ht : 0 ≤ t ∧ t ≤ 3) (hk : 1 ≤ k ∧ k ≤ 99) : (inR t 0 3 && inR k 1 99) = true := by
  simp [inR]; omega

theorem BytesIn.at' {lo hi g : Nat} {w : World} {zs : List Int} (h : BytesIn lo hi w (some ⟨g, 0, none⟩) zs) (h0 : 1 ≤ zs.length) : lo ≤ g ∧ g < hi := by
  rcases h with h | ⟨b, o, e, h1, h2, _⟩
  · rw [h] at h0; simp at h0
  · cases e; exact ⟨h1, h2⟩

/-- Right pages, not too many, and edits of one page each. -/
structure GdS (s : St) (k : Nat) : Prop where
  p : okP s.2
  l : s.2.length ≤ 12
  e : s.1.length ≤ k
  b : ∀ x ∈ s.1, x.2.length ≤ 64
theorem GdS.mono {s : St} {k k' : Nat} (h : GdS s k) (hk : k ≤ k') : GdS s k' := ⟨h.p, h.l, Nat.le_trans h.e hk, h.b⟩
theorem wpL_lenle {cur : List (List Int)} {p : Nat} {zs : List Int} (h : cur.length ≤ 12) (hp : p < 12) : (wpL cur p zs).length ≤ 12 := by
  unfold wpL
  split
  · rename_i e; rw [List.length_append]; simp; omega
  · rw [List.length_set]; exact h
theorem GdS.turn {s : St} {k : Nat} (h : GdS s k) {p : Nat} (hp : p < 12) {zs : List Int} (hz : Fine zs) : GdS (tnS s p zs) (k + 1) := by
  refine ⟨h.p.turn p hz, wpL_lenle h.l hp, ?_, fun x hx => ?_⟩
  · have := tn_len s.1 s.2 p zs; have := h.e; show (tnE _ _ _ _).length ≤ _; omega
  · have hx' : x ∈ tnE s.1 s.2 p zs := hx
    unfold tnE at hx'
    split at hx'
    · exact h.b x hx'
    · rcases List.mem_append.1 hx' with h1 | h1
      · exact h.b x h1
      · rw [List.mem_singleton.1 h1]; exact Nat.le_of_eq hz.pg.len
theorem GdS.pi {s : St} {k : Nat} (h : GdS s k) {p : Nat} (hp : p < 12) {old cs : List Int} (ho : Fine old) (hc : ∀ z ∈ cs, 0 ≤ z ∧ z ≤ 255) (h1 : 1 ≤ cs.length) : GdS (piS s p old cs).1 (k + 2) := by
  unfold piS
  split
  · rename_i hq
    exact (h.turn hp (fine_put ho hc h1 hq)).mono (by omega)
  · split
    · split
      · rename_i hq
        exact (h.turn hp (fine_compact ho)).turn hp (fine_put (fine_compact ho) hc h1 hq)
      · exact (h.turn hp (fine_compact ho)).mono (by omega)
    · exact h.mono (by omega)
theorem pi_len {s : St} {p : Nat} {old cs : List Int} (hp : p < s.2.length) : (piS s p old cs).1.2.length = s.2.length := by
  unfold piS
  split
  · exact wpL_len hp
  · split
    · split
      · show (wpL (wpL _ _ _) _ _).length = _
        rw [wpL_len (by rw [wpL_len hp]; exact hp), wpL_len hp]
      · exact wpL_len hp
    · rfl
theorem GdS.pl (x : Int) {cs : List Int} (hc : ∀ z ∈ cs, 0 ≤ z ∧ z ≤ 255) (h1 : 1 ≤ cs.length) (h20 : cs.length ≤ 20) : ∀ (k p : Nat) (s : St) (m : Nat), GdS s m → p + k = s.2.length → GdS (plS x cs k p s).1 (m + 2 * k + 1)
  | 0, p, s, m, h, _ => by
    unfold plS nwS
    split
    · exact h.mono (by omega)
    · rename_i hl
      exact h.turn (by omega) (fine_put (fine_new 0 (by omega) (by omega)) hc h1 (putQ_new _ h20))
  | k + 1, p, s, m, h, hp => by
    have hl := h.l
    have hpl : p < s.2.length := by omega
    have hold : s.2[p]? = some (s.2.getD p []) := by rw [List.getD_eq_getElem?_getD, List.getElem?_eq_getElem hpl]; rfl
    have hpi := h.pi (p := p) (by omega) (h.p.at hold) hc h1
    unfold plS
    split
    · exact (GdS.pl x hc h1 h20 k (p + 1) s m h (by omega)).mono (by omega)
    · split
      · exact hpi.mono (by omega)
      · exact (GdS.pl x hc h1 h20 k (p + 1) _ (m + 2) hpi (by rw [pi_len hpl]; omega)).mono (by omega)
theorem GdS.big {s : St} {k : Nat} (h : GdS s k) (hk : k ≤ 1000) : bigE s.1 ≤ 2000000 ∧ bigQ s.2 ≤ 13000000 :=
  ⟨bigE_le h.b (Nat.le_trans h.e hk), bigQ_le (fun zs hz => Nat.le_of_eq (h.p zs hz).pg.len) (Nat.le_trans h.l (by omega))⟩
theorem GdS.start {ps : List (List Int)} (hp : PgOk ps) (h : viewQ ps = 0) : GdS ([], ps) 0 := by
  obtain ⟨h1, h2⟩ := view_pages hp h
  exact ⟨h2, h1, by simp, by simp⟩
theorem big_nil : bigE [] ≤ 2000000 ∧ bigQ [] ≤ 13000000 := ⟨bigE_le (by simp) (by simp), bigQ_le (by simp) (by simp)⟩


/-- How a cell that is laid leaves the others. -/
theorem HasS.lay {zs cs : List Int} {m low s q sl : Nat} (h : HasS zs sl) (hF : Fine zs) (hl : q + cs.length ≤ 64) (hs : s < 16) (hm : nb zs 0 ≤ m) (hm16 : m ≤ 16) (hq : 2 + 2 * m ≤ q) (hsm : s < m) (hn : sl ≠ s) : HasS (stand zs cs m low s q) sl := by
  have S := stood zs cs m low s q hF.pg.len hl (by omega) (by omega)
  have hlt := h.lt
  refine ⟨by rw [S.h0]; omega, ?_⟩
  have e := S.ol sl hn (by omega)
  have hz := h.nz hF
  unfold empB
  have : nb (stand zs cs m low s q) (3 + 2 * sl) ≠ 0 := by show ln _ sl ≠ 0; rw [e]; exact hz
  simp [this]
theorem HasS.laid {zs cs : List Int} {m low s q : Nat} (hz : zs.length = 64) (hl : q + cs.length ≤ 64) (hs : s < m) (hm16 : m ≤ 16) (hq : 2 + 2 * m ≤ q) (h1 : 1 ≤ cs.length) : HasS (stand zs cs m low s q) s := by
  have S := stood zs cs m low s q hz hl (by omega) (by omega)
  refine ⟨by rw [S.h0]; exact hs, ?_⟩
  unfold empB
  have : nb (stand zs cs m low s q) (3 + 2 * s) ≠ 0 := by show ln _ s ≠ 0; rw [S.hl]; omega
  simp [this]
theorem put_room {zs : List Int} {n : Nat} (hF : Fine zs) (hq : putQ zs n = 0) : putS zs < putM zs ∧ putM zs ≤ 16 ∧ nb zs 0 ≤ putM zs ∧ 2 + 2 * putM zs + n ≤ nb zs 1 := by
  have hle := putS_le zs
  have hfew := hF.few
  unfold putQ at hq
  split at hq
  · exact absurd hq (by decide)
  · rename_i hs
    split at hq
    · exact absurd hq (by decide)
    · split at hq
      · exact absurd hq (by decide)
      · rename_i h2
        unfold putM at h2 ⊢
        split at h2 <;> split <;> omega
/-- A cell that is put leaves the others. -/
theorem HasS.put {zs cs : List Int} {sl : Nat} (h : HasS zs sl) (hF : Fine zs) (hq : putQ zs cs.length = 0) : HasS (putP zs cs) sl := by
  obtain ⟨r1, r2, r3, r4⟩ := put_room hF hq
  have hlow := hF.low
  have hn : sl ≠ putS zs := fun e => by
    by_cases hp : putS zs < nb zs 0
    · have := putS_emp hp
      rw [← e, h.em] at this
      exact absurd this (by decide)
    · have := h.lt; omega
  rw [putP_stand]
  exact h.lay hF (by omega) (by omega) r3 r2 (by omega) r1 hn
theorem setP_stand {zs cs : List Int} {s : Nat} (hF : Fine zs) (hq : setQ zs s cs.length = 0) (hs : HasS zs s) : ∃ low q, setP zs s cs = stand zs cs (nb zs 0) low s q ∧ q + cs.length ≤ 64 ∧ 2 + 2 * nb zs 0 ≤ q := by
  have hd := hF.dirs
  have hlow := hd.low
  have hdir := hd.dir
  unfold setP
  split
  · rename_i hle
    have hp := hd.place s hs.lt
    have hz := hs.nz hF
    have hp : nb zs 1 ≤ pl zs s ∧ pl zs s + ln zs s ≤ 64 := by rcases hp with h | h; exact absurd h.2 hz; exact ⟨h.2.2.1, h.2.2.2⟩
    refine ⟨nb zs 1, pl zs s + ln zs s - cs.length, ?_, by omega, by omega⟩
    unfold stand
    rw [set1_self hF.pg]
  · rename_i hle
    unfold setQ at hq
    rw [if_neg hle] at hq
    have hroom : 2 + 2 * nb zs 0 + cs.length ≤ nb zs 1 := by
      split at hq
      · exact absurd hq (by decide)
      · split at hq
        · exact absurd hq (by decide)
        · omega
    refine ⟨nb zs 1 - cs.length, nb zs 1 - cs.length, ?_, by omega, by omega⟩
    unfold stand
    rw [set0_self hF.pg]
/-- A cell that is turned leaves the others, and stands there itself. -/
theorem HasS.set {zs cs : List Int} {s sl : Nat} (h : HasS zs sl) (hF : Fine zs) (hs : HasS zs s) (hq : setQ zs s cs.length = 0) (h1 : 1 ≤ cs.length) : HasS (setP zs s cs) sl := by
  obtain ⟨low, q, e, hl, hr⟩ := setP_stand hF hq hs
  have hfew := hF.few
  have hlt := hs.lt
  rw [e]
  by_cases hn : sl = s
  · rw [hn]
    exact HasS.laid hF.pg.len hl hs.lt hfew hr h1
  · exact h.lay hF hl (by omega) (Nat.le_refl _) hfew hr hs.lt hn

/-- Every cell that is there is there. -/
def Keep (s s' : St) : Prop := ∀ (p sl : Nat) (old : List Int), s.2[p]? = some old → HasS old sl → ∃ new, s'.2[p]? = some new ∧ HasS new sl
theorem Keep.refl (s : St) : Keep s s := fun p sl old h1 h2 => ⟨old, h1, h2⟩
theorem Keep.trans {s s' s'' : St} (h : Keep s s') (h' : Keep s' s'') : Keep s s'' := fun p sl old h1 h2 => by
  obtain ⟨new, h3, h4⟩ := h p sl old h1 h2
  exact h' p sl new h3 h4
theorem wpL_get {cur : List (List Int)} {p i : Nat} {zs : List Int} (hp : p ≤ cur.length) (hi : i < cur.length) : (wpL cur p zs)[i]? = if i = p then some zs else cur[i]? := by
  unfold wpL
  split
  · rename_i e
    rw [if_neg (by omega), List.getElem?_append_left hi]
  · rename_i e
    rw [List.getElem?_set]
    by_cases h : p = i
    · rw [if_pos h, if_pos h.symm, if_pos (by omega)]
    · rw [if_neg h, if_neg (fun e => h e.symm)]
theorem Keep.turn {s : St} {p : Nat} {zs : List Int} (hp : p ≤ s.2.length) (h : ∀ old sl, s.2[p]? = some old → HasS old sl → HasS zs sl) : Keep s (tnS s p zs) := fun i sl old h1 h2 => by
  have hi : i < s.2.length := (List.getElem?_eq_some_iff.1 h1).1
  show ∃ new, (wpL s.2 p zs)[i]? = some new ∧ HasS new sl
  rw [wpL_get hp hi]
  split
  · rename_i e
    subst e
    exact ⟨zs, rfl, h old sl h1 h2⟩
  · exact ⟨old, h1, h2⟩
theorem Keep.pi {s : St} {p : Nat} {old cs : List Int} (hF : Fine old) (ho : s.2[p]? = some old) : Keep s (piS s p old cs).1 := by
  have hp : p < s.2.length := (List.getElem?_eq_some_iff.1 ho).1
  have hC := fine_compact hF
  have kc : Keep s (tnS s p (cpL old)) := Keep.turn (by omega) (fun o sl h1 h2 => by rw [ho] at h1; cases h1; exact h2.cp hF)
  unfold piS
  split
  · rename_i hq
    exact Keep.turn (by omega) (fun o sl h1 h2 => by rw [ho] at h1; cases h1; exact h2.put hF hq)
  · split
    · split
      · rename_i hq
        refine kc.trans (Keep.turn ?_ (fun o sl h1 h2 => ?_))
        · show p ≤ (wpL s.2 p (cpL old)).length; rw [wpL_len hp]; omega
        · have h3 : (wpL s.2 p (cpL old))[p]? = some (cpL old) := wpL_at hp
          rw [show (tnS s p (cpL old)).2[p]? = some (cpL old) from h3] at h1
          cases h1
          exact h2.put hC hq
      · exact kc
    · exact Keep.refl _
theorem Keep.st {s : St} {p sl : Nat} {old cs : List Int} (hF : Fine old) (ho : s.2[p]? = some old) (hs : HasS old sl) (h1 : 1 ≤ cs.length) : Keep s (stS s p sl old cs).1 := by
  have hp : p < s.2.length := (List.getElem?_eq_some_iff.1 ho).1
  have hC := fine_compact hF
  have kc : Keep s (tnS s p (cpL old)) := Keep.turn (by omega) (fun o sl h1 h2 => by rw [ho] at h1; cases h1; exact h2.cp hF)
  unfold stS
  split
  · rename_i hq
    exact Keep.turn (by omega) (fun o sl' h3 h2 => by rw [ho] at h3; cases h3; exact h2.set hF hs hq h1)
  · split
    · split
      · rename_i hq
        refine kc.trans (Keep.turn ?_ (fun o sl' h3 h2 => ?_))
        · show p ≤ (wpL s.2 p (cpL old)).length; rw [wpL_len hp]; omega
        · have h4 : (wpL s.2 p (cpL old))[p]? = some (cpL old) := wpL_at hp
          rw [show (tnS s p (cpL old)).2[p]? = some (cpL old) from h4] at h3
          cases h3
          exact h2.set hC (hs.cp hF) hq h1
      · exact kc
    · exact Keep.refl _
theorem GdS.st {s : St} {k : Nat} (h : GdS s k) {p sl : Nat} (hp : p < 12) {old cs : List Int} (ho : Fine old) (hs : HasS old sl) (hc : ∀ z ∈ cs, 0 ≤ z ∧ z ≤ 255) (h1 : 1 ≤ cs.length) : GdS (stS s p sl old cs).1 (k + 2) := by
  have hC := fine_compact ho
  unfold stS
  split
  · rename_i hq
    exact (h.turn hp (fine_set ho hs.lt (hs.nz ho) hc h1 hq)).mono (by omega)
  · split
    · split
      · rename_i hq
        exact (h.turn hp hC).turn hp (fine_set hC (hs.cp ho).lt ((hs.cp ho).nz hC) hc h1 hq)
      · exact (h.turn hp hC).mono (by omega)
    · exact h.mono (by omega)
theorem Keep.pl (x : Int) {cs : List Int} : ∀ (k p : Nat) (s : St), okP s.2 → (∀ z ∈ cs, 0 ≤ z ∧ z ≤ 255) → 1 ≤ cs.length → p + k = s.2.length → Keep s (plS x cs k p s).1
  | 0, p, s, h, _, _, _ => by
    unfold plS nwS
    split
    · exact Keep.refl _
    · exact Keep.turn (Nat.le_refl _) (fun o sl h1 h2 => absurd (List.getElem?_eq_some_iff.1 h1).1 (Nat.lt_irrefl _))
  | k + 1, p, s, h, hc, h1, hp => by
    have hpl : p < s.2.length := by omega
    have hold : s.2[p]? = some (s.2.getD p []) := by rw [List.getD_eq_getElem?_getD, List.getElem?_eq_getElem hpl]; rfl
    have hF := h.at hold
    have hpi : Keep s (piS s p (s.2.getD p []) cs).1 := Keep.pi hF hold
    have hok := (OkS.pi (s := s) (m := s.2.length) (k := s.1.length) ⟨h, rfl, Nat.le_refl _⟩ hpl hold hc h1).p
    unfold plS
    split
    · exact Keep.pl x k (p + 1) s h hc h1 (by omega)
    · split
      · exact hpi
      · exact hpi.trans (Keep.pl x k (p + 1) _ hok hc h1 (by rw [pi_len hpl]; omega))


def dpS (s : St) (p sl : Nat) (old : List Int) : St := (s.1 ++ [((p : Int), drpP old sl)], s.2.set p (drpP old sl))
def stbC (x : Nat × Nat) : List Int := [1, (x.1 : Int), (x.2 : Int)]
/-- A row placed elsewhere, its stub turned, its old cell dropped. -/
def mwS (s : St) (pn sn hp hs : Nat) (cs : List Int) : St × Bool :=
  match (plS hp cs s.2.length 0 s).2 with
  | none => ((plS hp cs s.2.length 0 s).1, false)
  | some x =>
    ((fun s3 : St => if hp = pn ∧ hs = sn then s3 else dpS s3 hp hs (s3.2.getD hp [])) (stS (plS hp cs s.2.length 0 s).1 pn sn ((plS hp cs s.2.length 0 s).1.2.getD pn []) (stbC x)).1, true)
/-- A row turned where it stands, or moved. -/
def upS (s : St) (pn sn hp hs : Nat) (c1 c2 : List Int) : St × Bool :=
  if (stS s hp hs (s.2.getD hp []) c1).2 = true then ((stS s hp hs (s.2.getD hp []) c1).1, true)
  else mwS (stS s hp hs (s.2.getD hp []) c1).1 pn sn hp hs c2
/-- What moveRow, updateRow and l7Move hand back. -/
def UpPost (n₀ : Nat) (X : World) (ob : Nat) (r : St × Bool) (e : Ending) (V : World) : Prop := e = .returned (.bool r.2) ∧ R3 n₀ X ob r.1.1 r.1.2 V

theorem mv_none {s s2 : St} {pn sn hp hs : Nat} {cs : List Int} (h : plS hp cs s.2.length 0 s = (s2, none)) : mwS s pn sn hp hs cs = (s2, false) := by unfold mwS; rw [h]
theorem mv_some {s s2 : St} {pn sn hp hs : Nat} {cs zs : List Int} {x : Nat × Nat} (h : plS hp cs s.2.length 0 s = (s2, some x)) (hz : s2.2[pn]? = some zs) : mwS s pn sn hp hs cs = (if hp = pn ∧ hs = sn then (stS s2 pn sn zs (stbC x)).1 else dpS (stS s2 pn sn zs (stbC x)).1 hp hs ((stS s2 pn sn zs (stbC x)).1.2.getD hp []), true) := by
  unfold mwS; rw [h]; dsimp only; rw [getD_of hz]
theorem up_true {s s1 : St} {pn sn hp hs : Nat} {c1 c2 old : List Int} (ho : s.2[hp]? = some old) (h : stS s hp hs old c1 = (s1, true)) : upS s pn sn hp hs c1 c2 = (s1, true) := by unfold upS; rw [getD_of ho, h]; rfl
theorem up_false {s s1 : St} {pn sn hp hs : Nat} {c1 c2 old : List Int} (ho : s.2[hp]? = some old) (h : stS s hp hs old c1 = (s1, false)) : upS s pn sn hp hs c1 c2 = mwS s1 pn sn hp hs c2 := by unfold upS; rw [getD_of ho, h]; rfl

theorem pi_slot {s : St} {p : Nat} {old cs : List Int} {sl : Nat} (ho : Fine old) (h : (piS s p old cs).2 = some sl) : sl ≤ 15 := by
  unfold piS at h
  split at h
  · rename_i hq
    have := put_room ho hq
    cases h; omega
  · split at h
    · split at h
      · rename_i hq
        have hC : Fine (cpL old) := fine_compact ho
        have := put_room hC hq
        cases h; omega
      · cases h
    · cases h
/-- Where a cell comes to stand. -/
theorem pl_place (x : Int) {cs : List Int} (hc : ∀ z ∈ cs, 0 ≤ z ∧ z ≤ 255) (h1 : 1 ≤ cs.length) : ∀ (k p : Nat) (s : St), okP s.2 → s.2.length ≤ 12 → p + k = s.2.length → ∀ y, (plS x cs k p s).2 = some y → y.1 ≤ 11 ∧ y.2 ≤ 15
  | 0, p, s, h, h12, _, y, hy => by
    unfold plS nwS at hy
    split at hy
    · cases hy
    · rename_i hl
      have e2 : putS (newBytes 0) = 0 := rfl
      cases hy
      exact ⟨by dsimp only; omega, by dsimp only; rw [e2]; omega⟩
  | k + 1, p, s, h, h12, hp, y, hy => by
    have hpl : p < s.2.length := by omega
    have hold : s.2[p]? = some (s.2.getD p []) := by rw [List.getD_eq_getElem?_getD, List.getElem?_eq_getElem hpl]; rfl
    have hF := h.at hold
    have hok := (OkS.pi (s := s) (m := s.2.length) (k := s.1.length) ⟨h, rfl, Nat.le_refl _⟩ hpl hold hc h1)
    unfold plS at hy
    split at hy
    · exact pl_place x hc h1 k (p + 1) s h h12 (by omega) y hy
    · split at hy
      · rename_i sl hsl
        cases hy
        exact ⟨by dsimp only; omega, pi_slot hF hsl⟩
      · exact pl_place x hc h1 k (p + 1) _ hok.p (by rw [hok.l]; exact h12) (by rw [hok.l]; omega) y hy
theorem stub_ok {x : Nat × Nat} (h1 : x.1 ≤ 11) (h2 : x.2 ≤ 15) : (stbC x).length = 3 ∧ ∀ z ∈ stbC x, 0 ≤ z ∧ z ≤ 255 := by
  refine ⟨rfl, fun z hz => ?_⟩
  simp only [stbC, List.mem_cons, List.not_mem_nil, or_false] at hz
  omega

set_option maxRecDepth 20000

set_option maxHeartbeats 400000 in
theorem l1Stub_any (p s : Nat) (w : World) (p1 : p ≤ 11) (s1 : s ≤ 15) :
    Calls Tryz.prog 128 #[.int .i64 p, .int .i64 s] w fun e w' => e = .returned (.slice (some ⟨w.heap.size, 0, none⟩) 3 3) ∧ Below w.heap.size w w' ∧ BytesIn w.heap.size w'.heap.size w' (some ⟨w.heap.size, 0, none⟩) [1, (p : Int), (s : Int)] := by
  go_enter Tryz.func128, Tryz.ntmps128
  go_wp2
  go_ret
  exact ⟨rfl, by go_grown, bytesIn_three (by omega) (by simp) (by simp [go_sem]) (by simp [go_sem]) (by simp [go_sem]) (by simp [go_sem]) (by simp [go_sem]) (by simp [go_sem])⟩
set_option maxHeartbeats 400000 in
theorem packStub_ok (p s : Nat) (w : World) (p1 : p ≤ 11) (s1 : s ≤ 15) :
    Calls Tryz.prog 175 #[.int .i64 p, .int .i64 s] w fun e w' => ∃ g c, e = .returned (.agg #[.int .i64 0, .slice (some ⟨g, 0, none⟩) 3 c]) ∧ Below w.heap.size w w' ∧ BytesIn w.heap.size w'.heap.size w' (some ⟨g, 0, none⟩) [1, (p : Int), (s : Int)] := by
  have h1 : inW (p : Int) 0 11 = true := by simp [inW]; omega
  have h2 : inW (s : Int) 0 15 = true := by simp [inW]; omega
  go_enter Tryz.func175, Tryz.ntmps175
  go_wp2_with (go_at_call 85; refine (isWithinW_any _ _ _ _).mono ?_; rintro e w' ⟨rfl, rfl⟩)
  go_returns
  exact ⟨_, _, rfl, by go_grown, bytesIn_three (by omega) (by simp) (by simp [go_sem]) (by simp [go_sem]) (by simp [go_sem]) (by simp [go_sem]) (by simp [go_sem]) (by simp [go_sem])⟩

end Go.Proofs.YtnfolgoloaeanaaGreat

