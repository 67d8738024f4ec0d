/- The walk of the law WordsOrder: in which order points of unlike ids stand plays no part. Conditions: those that each theorem names. -/
import Derived.Test.YtkmfkgjkgnlfnaaWdPt
namespace Go.Proofs.Ytkmfkgjkgnlfnaa
set_option linter.unusedVariables false
namespace Wd
open Go Go.RowKit Go.Shelf Go.Sort Go.Maps Pq Pq.Pl Rk Ids
/-! ### Points as they lie beside what is read -/
abbrev Zp := Rp × Pt
def keyZ (z : Zp) : Int := z.2.id
def rowsZ (Z : List Zp) : List Rp := Z.map Prod.fst
def ptsZ (Z : List Zp) : List Pt := Z.map Prod.snd
abbrev OwnP (w : World) (base : Nat) (v : Value) (Z : List Zp) : Prop := Rk.Own encP 3 33 w base v (rowsZ Z)
def GoodZ (w : World) (Z : List Zp) : Prop := ∀ z ∈ Z, PtW w z.1 z.2
theorem pts_pairs {w : World} {v : Value} {L : List Pt} (h : PtsAt w v L) : ∃ Z : List Zp, RowAt encP 3 w v (rowsZ Z) ∧ ptsZ Z = L ∧ GoodZ w Z := by
  obtain ⟨R, h1, h2, h3⟩ := h
  refine ⟨R.zip L, ?_, ?_, ?_⟩
  · unfold rowsZ
    rw [List.map_fst_zip (by omega)]
    exact h1
  · unfold ptsZ
    exact List.map_snd_zip (by omega)
  · intro z hz
    obtain ⟨j, hj, rfl⟩ := List.getElem_of_mem hz
    have hj' : j < R.length ∧ j < L.length := by simp at hj; omega
    rw [List.getElem_zip]
    exact h3 j hj'.1 hj'.2
theorem pts_own {w w' : World} {base : Nat} {v : Value} {Z : List Zp} (h : OwnP w' base v Z) (hg : GoodZ w Z) (hb : Below w.heap.size w w') : PtsAt w' v (ptsZ Z) := by
  refine ⟨rowsZ Z, own_row flatP h, by simp [rowsZ, ptsZ], fun j h1 h2 => ?_⟩
  have hj : j < Z.length := by simpa [rowsZ] using h1
  have e1 : (rowsZ Z)[j] = (Z[j]).1 := by simp [rowsZ]
  have e2 : (ptsZ Z)[j] = (Z[j]).2 := by simp [ptsZ]
  rw [e1, e2]
  exact (hg _ (List.getElem_mem hj)).below hb
theorem rowsZ_len (Z : List Zp) : (rowsZ Z).length = Z.length := by simp [rowsZ]
theorem rowP_at {w : World} {v : Value} {Z : List Zp} (h : RowAt encP 3 w v (rowsZ Z)) (h0 : 0 < Z.length) : ∃ g off c, v = .slice (some ⟨g, off, none⟩) Z.length c ∧ g < w.heap.size ∧ ∀ W : World, W.heap[g]? = w.heap[g]? → ∀ k (hk : k < Z.length),
    W.cell? ⟨g, off + k * 3, none⟩ = some (.int .i64 (Z[k]).1.id) ∧ W.cell? ⟨g, off + k * 3 + 1, none⟩ = some (slv (Z[k]).1.v) ∧ W.cell? ⟨g, off + k * 3 + 2, none⟩ = some (slv (Z[k]).1.f) := by
  rcases h with ⟨e, _⟩ | ⟨g, off, c, rfl, hg, hc⟩
  · have : (rowsZ Z).length = 0 := by rw [e]; rfl
    rw [rowsZ_len] at this
    omega
  · refine ⟨g, off, c, by rw [rowsZ_len], hg, fun W hW k hk => ?_⟩
    have hk' : k < (rowsZ Z).length := by rw [rowsZ_len]; exact hk
    have e : (rowsZ Z)[k] = (Z[k]).1 := by simp [rowsZ]
    have h := hc W hW k hk'
    rw [e] at h
    exact ⟨h 0 _ rfl, h 1 _ rfl, h 2 _ rfl⟩
theorem ownP_at {w : World} {base : Nat} {v : Value} {Z : List Zp} (h : OwnP w base v Z) (h0 : 0 < Z.length) : ∃ g cap, v = .slice (some ⟨g, 0, none⟩) Z.length cap ∧ g < w.heap.size ∧ ∀ W : World, W.heap[g]? = w.heap[g]? → ∀ k (hk : k < Z.length),
    W.cell? ⟨g, k * 3, none⟩ = some (.int .i64 (Z[k]).1.id) ∧ W.cell? ⟨g, k * 3 + 1, none⟩ = some (slv (Z[k]).1.v) ∧ W.cell? ⟨g, k * 3 + 2, none⟩ = some (slv (Z[k]).1.f) := by
  obtain ⟨g, cap, e, _, _⟩ := Rk.own_form h (by rw [rowsZ_len]; exact h0)
  obtain ⟨g', off, c, e', hg, hc⟩ := rowP_at (own_row flatP h) h0
  rw [e, rowsZ_len] at e'
  injection e' with e1 _ e3
  injection e1 with e1
  injection e1 with e1 e2
  subst e1
  subst e2
  refine ⟨g, cap, by rw [e, rowsZ_len], hg, fun W hW k hk => ?_⟩
  have h := hc W hW k hk
  simp only [Nat.zero_add] at h
  exact h
theorem ownP_form {w : World} {base : Nat} {v : Value} {Z : List Zp} (h : OwnP w base v Z) : ∃ p c, v = .slice p Z.length c := by
  have := (own_row flatP h).form
  rwa [rowsZ_len] at this
/-- One more point behind a row of one's own. -/
theorem appendP {w : World} {base : Nat} {v : Value} {Z : List Zp} (h : OwnP w base v Z) (z : Zp) (hb : (Z.length + 1) * 56 ≤ 140737488355328) (hbase : base ≤ w.heap.size) :
    ∃ v' w', (∀ ty, (Builtin.append_ #[22, 22] ty #[v, .slice (some ⟨w.heap.size, 0, none⟩) 1 1]).run Try.prog (w.alloc (pobj z.1)) = .ok v' w') ∧ OwnP w' base v' (Z ++ [z]) ∧ (∀ n, n ≤ base → Below n w w') := by
  have hA := Rk.fresh_alloc w (pobj z.1)
  obtain ⟨v', w', h1, h2, h3, _, _⟩ := append_el flatP (Rk.own_below h hA) (x := z.1) (m := (0, 0)) (Rk.heap_last w (pobj z.1)) (by rw [rowsZ_len]; exact hb) (by rw [rowsZ_len]; unfold maxLen; omega) (by simp; omega)
  refine ⟨v', w', h1, ?_, fun n hn => ?_⟩
  · show Rk.Own _ _ _ _ _ _ (rowsZ (Z ++ [z]))
    have e : rowsZ (Z ++ [z]) = rowsZ Z ++ [z.1] := by simp [rowsZ]
    rw [e]
    exact h2
  · exact ((hA.mono (by omega)).trans ((Below.refl _ _).grown h3 (by simp; omega) (fun j hj => Nat.le_trans hn (Rk.own_block (Rk.own_below h hA) j hj).1)))
/-! ### The rows of both orders -/
def oneZ (Z : List Zp) : List Zp := oneL keyZ Z
theorem oneZ_next {Z : List Zp} {k : Nat} (hk : k < Z.length) : oneZ (Z.take (k + 1)) = if (oneZ (Z.take k)).any (fun y => decide (keyZ y = keyZ Z[k])) then oneZ (Z.take k) else oneZ (Z.take k) ++ [Z[k]] := by
  rw [List.take_add_one, List.getElem?_eq_getElem hk]
  exact oneL_snoc keyZ _ _
theorem oneZ_len (Z : List Zp) (k : Nat) : (oneZ (Z.take k)).length ≤ k := by
  have := one_length keyZ (Z.take k)
  unfold oneZ
  simp at this
  omega
theorem oneZ_good {w : World} {Z : List Zp} (h : GoodZ w Z) : GoodZ w (oneZ Z) := fun z hz => h z (one_mem keyZ hz)
theorem rl_turned (O : List Zp) (s : Nm) : rlOf (ptsZ O.reverse) s = (rlOf (ptsZ O) s).reverse := by simp [rlOf, ptsZ]
theorem rl_nodup (Z : List Zp) (s : Nm) : ((rlOf (ptsZ (oneZ Z)) s).map Prod.fst).Nodup := by
  have h := one_nodup keyZ Z
  have e : (rlOf (ptsZ (oneZ Z)) s).map Prod.fst = (oneL keyZ Z).map keyZ := by
    unfold rlOf ptsZ oneZ keyZ
    simp [List.map_map, Function.comp_def]
  rw [e]
  exact h
theorem both_rows (Z : List Zp) (s : Nm) {R1 R2 : List (Rw Val)} (h1 : ∀ y, y ∈ R1 ↔ y ∈ rowsL (rlOf (ptsZ (oneZ Z)) s)) (h2 : ∀ y, y ∈ R2 ↔ y ∈ rowsL (rlOf (ptsZ (oneZ Z).reverse) s)) :
    (∀ v, findL R1 v = findL R2 v) ∧ anyL R1 = anyL R2 ∧ valsL ltV R1 = valsL ltV R2 :=
  same_rows ordV fun y => by rw [h1, h2, rl_turned]; exact turned_rows (rl_nodup Z s) y
end Wd
end Go.Proofs.Ytkmfkgjkgnlfnaa
