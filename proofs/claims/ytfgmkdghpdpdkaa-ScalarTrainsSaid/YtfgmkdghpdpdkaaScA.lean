/- scalar's spans one by one: code, value, step, with; isVector. Conditions: those that each theorem names. -/
import Derived.Test.YtfgmkdghpdpdkaaScPlain
import Derived.Test.YtfgmkdghpdpdkaaVcI
import Derived.Test.YtfgmkdghpdpdkaaRk
import Derived.Laws.StructEq
import Derived.Deep.RegionHeld3
import Derived.StillTailTactics
import Derived.Deep.DeepCutAuto
import Derived.Deep.RegionLaw
import Derived.Deep.QuietTactic
namespace Go.Proofs.Ytfgmkdghpdpdkaa
set_option linter.unusedVariables false
open Go Go.RowKit Vc Rk
namespace Sc
abbrev spV (s : Sp) : Value := .agg #[.int .i64 s.1, .int .i64 s.2]
def encS (s : Sp) : List Value := [.int .i64 s.1, .int .i64 s.2]
theorem infoS : (Try.prog.info? 72).map (fun i => (i.zero, i.size, i.bytes)) = some (some (.agg #[.int .i64 0, .int .i64 0]), 2, 16) := by kernel_rfl
theorem flatS : Flat Try.prog encS 2 72 61 16 :=
  ⟨Try.underlying61, info_of infoS rfl, by decide, fun _ => rfl, fun x u hu => by
    simp only [encS, List.mem_cons, List.not_mem_nil, or_false] at hu
    rcases hu with rfl | rfl <;> rfl⟩
theorem isv_any (L : List Int) (v : Value) (d : Int) (w : World) (h : IntsAt w v L) (hl : L.length ≤ maxLen) :
    Calls Try.prog 23 #[v, .int .i64 d] w fun e w' => e = .returned (.bool (decide ((L.length : Int) = d) && vecB L)) ∧ w' = w := by
  have HC := Lib.hid (check_any L v d 1 w h hl)
  have e : (chk L d 1 = 0) ↔ ((L.length : Int) = d ∧ vecB L = true) := by
    unfold chk
    have : metB 1 = true := rfl
    simp [this]
  have hc := chk_or L d 1
  obtain ⟨p, c, rfl⟩ := h.form
  clear h hl
  generalize chk L d 1 = x at *
  go_enter Try.func23, Try.ntmps23
  go_wp2_with (refine HC.out.mono ?_; rintro _ _ ⟨rfl, rfl⟩)
  rcases hc with rfl | rfl
  · have he : (decide ((L.length : Int) = d) && vecB L) = true := by simpa using e.1 rfl
    rw [he]
    go_wp2_with fail
    go_ret
    exact ⟨rfl, rfl⟩
  · have he : (decide ((L.length : Int) = d) && vecB L) = false := by
      rw [← Bool.not_eq_true]
      intro hh
      have := e.2 (by simpa using hh)
      cases this
    rw [he]
    go_wp2_with fail
    go_ret
    exact ⟨rfl, rfl⟩
set_option maxHeartbeats 1000000 in
theorem eqlS_run (x y : Sp) (w : World) : (binOp .eql 72 (.agg #[.int .i64 x.1, .int .i64 x.2]) (.agg #[.int .i64 y.1, .int .i64 y.2])).run Try.prog w = .ok (.bool (decide (x = y))) w := by
  obtain ⟨a, b⟩ := x
  obtain ⟨c, d⟩ := y
  rw [run_eql_struct, run_equalIn_agg _ _ _ _ _ (by kernel_rfl) (by kernel_rfl)]
  have c1 : Try.prog.cellsOf 3 = 1 := by kernel_rfl
  have q1 := fun (d : Nat) (a b : Int) (w : World) => run_equalIn_int (P := Try.prog) w d 3 .i64 .i64 a b Try.underlying3
  simp only [Program.fieldsOf, Try.underlying72]
  by_cases h1 : a = c
  · subst h1
    by_cases h2 : b = d
    · subst h2
      simp [Op.eqFields, go_sem, q1, Try.underlying3]
    · simp [Op.eqFields, go_sem, q1, h2, Try.underlying3]
  · simp [Op.eqFields, go_sem, q1, h1, Try.underlying3]
abbrev spO (s : Sp) : Obj := .cells #[.int .i64 s.1, .int .i64 s.2] 72
theorem sp_box (w : World) (s : Sp) : (w.alloc (spO s)).cell? ⟨w.heap.size, 0, none⟩ = some (.int .i64 s.1) ∧ (w.alloc (spO s)).cell? ⟨w.heap.size, 1, none⟩ = some (.int .i64 s.2) := by
  have h := heap_last w (spO s)
  constructor <;> rw [Lib.cell_of_heap h] <;> rfl
theorem u8_in (x : Int) (h : 0 ≤ x ∧ x ≤ 255) : IntKind.u8.wrap x = x := by
  unfold IntKind.wrap; simp [IntKind.bits, IntKind.signed]; omega
set_option maxHeartbeats 1000000 in
theorem step_any (s : Sp) (w : World) (h : OkS s) :
    Calls Try.prog 32 #[spV s] w fun e w' => e = .returned (.int .i64 (stepI s)) ∧ Below w.heap.size w w' := by
  obtain ⟨l, r⟩ := s
  obtain ⟨h1, h2, h3⟩ := h
  obtain ⟨c0, c1⟩ := sp_box w (l, r)
  simp only at h1 h2 h3 c0 c1
  have e1 : wrap64 (r - l) = r - l := wrap_in _ (by omega)
  have e2 : (r - l).tdiv 255 = (r - l) / 255 := Int.tdiv_eq_ediv_of_nonneg (by omega)
  have e3 : wrap64 ((r - l) / 255) = (r - l) / 255 := wrap_in _ (by omega)
  have e4 : wrap64 ((r - l) / 255 + 1) = (r - l) / 255 + 1 := wrap_in _ (by omega)
  unfold stepI
  clear h1 h2 h3
  go_enter Try.func32, Try.ntmps32
  go_wp2_with fail
  go_ret
  exact ⟨by rw [e3, e4]; rfl, fresh_alloc _ _⟩
set_option maxHeartbeats 1000000 in
theorem value_any (s : Sp) (c : Int) (w : World) (h : OkS s) (hc : 0 ≤ c ∧ c ≤ 255) :
    Calls Try.prog 45 #[spV s, .int .u8 c] w fun e w' => e = .returned (.int .i64 (valueI s c)) ∧ Below w.heap.size w w' := by
  have hb := value_bd h hc.1 hc.2
  obtain ⟨l, r⟩ := s
  obtain ⟨h1, h2, h3⟩ := h
  obtain ⟨c0, c1⟩ := sp_box w (l, r)
  unfold valueI at *
  simp only at h1 h2 h3 c0 c1 hb
  have p0 : 0 ≤ c * (r - l) := Int.mul_nonneg hc.1 (by omega)
  have p1 : c * (r - l) ≤ 255 * (r - l) := Int.mul_le_mul_of_nonneg_right hc.2 (by omega)
  have e0 : IntKind.i64.wrap c = c := kw_in _ (by omega)
  have e1 : wrap64 (r - l) = r - l := wrap_in _ (by omega)
  obtain ⟨p, hp⟩ : ∃ p, p = c * (r - l) := ⟨_, rfl⟩
  rw [← hp] at p0 p1 hb ⊢
  have e5 : wrap64 (c * (r - l)) = p := by rw [← hp]; exact wrap_in _ (by omega)
  have e2 : p.tdiv 255 = p / 255 := Int.tdiv_eq_ediv_of_nonneg p0
  have e3 : wrap64 (p / 255) = p / 255 := wrap_in _ (by omega)
  have e4 : wrap64 (l + p / 255) = l + p / 255 := wrap_in _ (by omega)
  clear h1 h2 h3 p0 p1 hb hp hc
  go_enter Try.func45, Try.ntmps45
  go_wp2_with fail
  go_ret
  exact ⟨by simp only [e0, e1, e5, e2, e3, e4]; rfl, fresh_alloc _ _⟩
set_option maxHeartbeats 1000000 in
set_option maxRecDepth 100000 in
theorem code_any (s : Sp) (x : Int) (w : World) (h : OkS s) (hx : -32768 ≤ x ∧ x ≤ 32767) :
    Calls Try.prog 43 #[spV s, .int .i64 x] w fun e w' => e = .returned (.int .u8 (codeI s x)) ∧ Below w.heap.size w w' := by
  have hb := code_bd h x
  obtain ⟨l, r⟩ := s
  obtain ⟨h1, h2, h3⟩ := h
  obtain ⟨c0, c1⟩ := sp_box w (l, r)
  have hbel := fresh_alloc w (spO (l, r))
  have heq := eqlS_run (l, r) (x, x) (w.alloc (spO (l, r)))
  unfold codeI at *
  simp only at h1 h2 h3 c0 c1 hb heq
  by_cases d1 : x < l
  · simp only [if_pos d1]
    clear heq hb
    go_enter Try.func43, Try.ntmps43
    go_wp2_with fail
    go_ret
    exact ⟨rfl, hbel⟩
  · rw [if_neg d1] at hb ⊢
    by_cases d2 : r < x
    · simp only [if_pos d2]
      clear heq hb
      go_enter Try.func43, Try.ntmps43
      go_wp2_with fail
      go_ret
      exact ⟨rfl, hbel⟩
    · rw [if_neg d2] at hb ⊢
      by_cases d3 : l = r
      · have d4 : l = x := by omega
        subst d3
        subst d4
        simp only [if_true]
        clear hb
        rw [decide_eq_true rfl] at heq
        go_enter Try.func43, Try.ntmps43
        go_wp2_with fail
        go_ret
        exact ⟨rfl, hbel⟩
      · have hne : ¬ ((l, r) : Sp) = (x, x) := fun e => d3 (by injection e with e1 e2; omega)
        rw [decide_eq_false hne] at heq
        rw [if_neg d3] at hb ⊢
        by_cases d5 : l = x
        · subst d5
          have hq : (l - l) * 255 / (r - l) = 0 := by rw [Int.sub_self, Int.zero_mul, Int.zero_ediv]
          have w3 : wrap64 (r - l) = r - l := wrap_in _ (by omega)
          have w0 : ¬ (r - l = 0) := by omega
          have d6 : ¬ r = l := by omega
          rw [hq]
          clear hb h1 h2 h3 hne hq
          go_enter Try.func43, Try.ntmps43
          go_wp2_with fail
          go_ret
          exact ⟨rfl, hbel⟩
        · have w1 : wrap64 (x - l) = x - l := wrap_in _ (by omega)
          have w2 : wrap64 ((x - l) * 255) = (x - l) * 255 := wrap_in _ (by omega)
          have w3 : wrap64 (r - l) = r - l := wrap_in _ (by omega)
          have w4 : ((x - l) * 255).tdiv (r - l) = (x - l) * 255 / (r - l) := Int.tdiv_eq_ediv_of_nonneg (by omega)
          have w0 : ¬ (r - l = 0) := by omega
          obtain ⟨q, hq⟩ : ∃ q, q = (x - l) * 255 / (r - l) := ⟨_, rfl⟩
          rw [← hq] at hb w4 ⊢
          have w5 : wrap64 q = q := wrap_in _ (by omega)
          have w6 : IntKind.u8.wrap q = q := u8_in _ hb
          clear hb h1 h2 h3 hne hq
          go_enter Try.func43, Try.ntmps43
          go_wp2_with fail
          go_ret
          exact ⟨rfl, hbel⟩
end Sc
end Go.Proofs.Ytfgmkdghpdpdkaa
