/-
  The model's RowsIn.
-/
import Derived.Test.YtonngopnhpmjaaaBLpt

namespace Go.Proofs.Ytonngopnhpmjaaa
open Go.RowKit Go.Maps
set_option linter.unusedVariables false

def spR (x : Spt) : Rw := ⟨x.c.t, x.c.k, x.c.v, x.c.s⟩
def OrdL (zs : List Spt) (rs : List Rw) : Prop := rs.Perm (zs.map spR) ∧ rs.Pairwise rLt

theorem OrdL.step {zs : List Spt} {j : Nat} {x : Spt} {rs new : List Rw} (h : OrdL (zs.take j) rs) (hx : zs[j]? = some x) (hd : (zs.map fun y => (y.c.t, y.c.k)).Nodup) (hp : PutAt rs (spR x) new) : OrdL (zs.take (j + 1)) new := by
  refine ⟨?_, hp.sorted h.2 fun r hr => ?_⟩
  · rw [take_snoc hx, List.map_append]
    refine hp.perm.trans ((List.Perm.cons _ h.1).trans ?_)
    exact (List.perm_append_singleton (spR x) _).symm
  · intro ⟨e1, e2⟩
    obtain ⟨y, hy, rfl⟩ := List.mem_map.1 (h.1.mem_iff.1 hr)
    have hd2 : ((zs.take (j + 1)).map fun y => (y.c.t, y.c.k)).Nodup := by
      rw [List.map_take]
      exact hd.sublist (List.take_sublist _ _)
    rw [take_snoc hx, List.map_append] at hd2
    have := (List.nodup_append.1 hd2).2.2 (y.c.t, y.c.k) (List.mem_map.2 ⟨y, hy, rfl⟩) (x.c.t, x.c.k) (by simp)
    exact this (by simp only [spR] at e1 e2; rw [e1, e2])

theorem seen_rows {ps : List (List Int)} (hp : PgOk ps) : (seenL ps).map (·.r) = (snF (mvF (allL ps)) (allL ps)).map spR := by
  unfold seenL
  rw [← snF_pl (allL_ok hp).1, List.map_map]
  rfl
theorem seen_keys2 {ps : List (List Int)} (hp : PgOk ps) : (seenKV ps).map (·.1) = (snF (mvF (allL ps)) (allL ps)).map fun y => (y.c.t, y.c.k) := by
  unfold seenKV seenL
  rw [← snF_pl (allL_ok hp).1, List.map_map, List.map_map]
  rfl

end Go.Proofs.Ytonngopnhpmjaaa
