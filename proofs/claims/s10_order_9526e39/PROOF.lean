import PyProof.Rows.All
import KE.OsGo
import KE.OsEnd
import PySem.Challenge.RW_linesteps_s10_order
set_option Elab.async false
set_option maxHeartbeats 4000000
namespace LsM
open Rb26

/-! ### the root -/
theorem rootFrom_ok (n : Nat) : ∀ (k r : Nat), r * r ≤ n → n < (r + 2 ^ k) * (r + 2 ^ k) →
    rootFrom n k r * rootFrom n k r ≤ n ∧ n < (rootFrom n k r + 1) * (rootFrom n k r + 1)
  | 0, r, h1, h2 => by
    simp only [rootFrom]
    exact ⟨h1, by simpa using h2⟩
  | k + 1, r, h1, h2 => by
    simp only [rootFrom]
    by_cases h : (r + 2 ^ k) * (r + 2 ^ k) ≤ n
    · rw [if_pos h]
      refine rootFrom_ok n k _ h ?_
      have e : r + 2 ^ (k + 1) = r + 2 ^ k + 2 ^ k := by rw [Nat.pow_succ]; omega
      rw [e] at h2
      exact h2
    · rw [if_neg h]
      exact rootFrom_ok n k _ h1 (by omega)

theorem root_ok (n : Nat) : root n * root n ≤ n ∧ n < (root n + 1) * (root n + 1) := by
  unfold root
  refine rootFrom_ok n _ 0 (by omega) ?_
  have h1 : n < 2 ^ (n.log2 + 1) := Nat.lt_log2_self
  have h2 : n.log2 + 1 ≤ (n.log2 / 2 + 1) + (n.log2 / 2 + 1) := by omega
  have h3 : 2 ^ (n.log2 + 1) ≤ 2 ^ ((n.log2 / 2 + 1) + (n.log2 / 2 + 1)) := Nat.pow_le_pow_right (by decide) h2
  simp only [Nat.zero_add]
  rw [← Nat.pow_add]
  exact Nat.lt_of_lt_of_le h1 h3

theorem sq_lt {x y : Nat} (h : x * x < y * y) : x < y := by
  apply Nat.lt_of_not_le
  intro g
  have := Nat.mul_le_mul g g
  omega

theorem root_unique {n r : Nat} (h1 : r * r ≤ n) (h2 : n < (r + 1) * (r + 1)) : r = root n := by
  have ⟨g1, g2⟩ := root_ok n
  have a : r < root n + 1 := sq_lt (by omega)
  have b : root n < r + 1 := sq_lt (by omega)
  omega

noncomputable def boxed {α : Type} (x : α) : {y : α // y = x} := Classical.choice ⟨⟨x, rfl⟩⟩
noncomputable def wroot : Int → Int := (boxed fun (s : Int) => ((root s.toNat : Nat) : Int)).1
theorem wroot_def (s : Int) : wroot s = ((root s.toNat : Nat) : Int) := congrFun (boxed _).2 s
theorem wroot_ok {s : Int} (h : 0 ≤ s) : 0 ≤ wroot s ∧ wroot s * wroot s ≤ s ∧ s < (wroot s + 1) * (wroot s + 1) := by
  have ⟨g1, g2⟩ := root_ok s.toNat
  rw [wroot_def]
  refine ⟨Int.natCast_nonneg _, ?_, ?_⟩
  · have : ((root s.toNat * root s.toNat : Nat) : Int) ≤ ((s.toNat : Nat) : Int) := by exact_mod_cast g1
    rw [Int.natCast_mul] at this
    omega
  · have : ((s.toNat : Nat) : Int) < (((root s.toNat + 1) * (root s.toNat + 1) : Nat) : Int) := by exact_mod_cast g2
    rw [Int.natCast_mul] at this
    push_cast at this
    omega
theorem wroot_unique {s r : Int} (h0 : 0 ≤ r) (h1 : r * r ≤ s) (h2 : s < (r + 1) * (r + 1)) : r = wroot s := by
  have hs : 0 ≤ s := Int.le_trans (Int.mul_nonneg h0 h0) h1
  obtain ⟨k, rfl⟩ : ∃ k : Nat, r = (k : Int) := ⟨r.toNat, by omega⟩
  rw [wroot_def]
  refine congrArg _ (root_unique ?_ ?_)
  · have : ((k * k : Nat) : Int) ≤ ((s.toNat : Nat) : Int) := by
      rw [Int.natCast_mul]; omega
    exact_mod_cast this
  · have : ((s.toNat : Nat) : Int) < (((k + 1) * (k + 1) : Nat) : Int) := by
      rw [Int.natCast_mul]; push_cast; omega
    exact_mod_cast this

/-! ### Newton's way -/
/-- one guess from another -/
def guess (s r : Int) : Int := (r + s.fdiv r).fdiv 2
theorem isq_lt {x y : Int} (hy : 0 ≤ y) (h : x * x < y * y) : x < y := by
  apply Int.lt_of_not_ge
  intro g
  have := Int.mul_le_mul g g hy (Int.le_trans hy g)
  omega
theorem guess_above {s r : Int} (hs : 0 ≤ s) (hr : 0 < r) : 0 ≤ guess s r ∧ s < (guess s r + 1) * (guess s r + 1) := by
  have e : s.fdiv r = s / r := Int.fdiv_eq_ediv_of_nonneg s (Int.le_of_lt hr)
  have e2 : guess s r = (r + s / r) / 2 := by
    unfold guess
    rw [e, Int.fdiv_eq_ediv_of_nonneg _ (by decide)]
  have q0 : 0 ≤ s / r := Int.ediv_nonneg hs (Int.le_of_lt hr)
  have m := Int.emod_lt_of_pos s hr
  have d := Int.mul_ediv_add_emod s r
  generalize s / r = q at *
  generalize guess s r = g at *
  have g0 : 0 ≤ g := by omega
  have k : r + q + 1 ≤ 2 * (g + 1) := by omega
  refine ⟨g0, ?_⟩
  have k2 := Int.mul_le_mul k k (by omega) (by omega)
  have sq : 0 ≤ (r - (q + 1)) * (r - (q + 1)) := by
    rcases Int.le_total 0 (r - (q + 1)) with h | h
    · exact Int.mul_nonneg h h
    · exact Int.mul_nonneg_of_nonpos_of_nonpos h h
  have r2 : r * (q + 1) = r * q + r := by rw [Int.mul_add, Int.mul_one]
  grind
theorem guess_end {s r : Int} (hr : 0 < r) (h : ¬ guess s r < r) : r * r ≤ s := by
  have e : s.fdiv r = s / r := Int.fdiv_eq_ediv_of_nonneg s (Int.le_of_lt hr)
  have e2 : guess s r = (r + s / r) / 2 := by
    unfold guess
    rw [e, Int.fdiv_eq_ediv_of_nonneg _ (by decide)]
  have m := Int.emod_nonneg s (Int.ne_of_gt hr)
  have d := Int.mul_ediv_add_emod s r
  have k : r ≤ s / r := by omega
  have := Int.mul_le_mul_of_nonneg_left k (Int.le_of_lt hr)
  omega
theorem guess_pos {s r : Int} (hs : 0 < s) (hr : 0 < r) : 0 < guess s r := by
  have ⟨h0, h1⟩ := guess_above (Int.le_of_lt hs) hr
  rcases (by omega : guess s r = 0 ∨ 0 < guess s r) with h | h
  · exfalso
    rw [h] at h1
    -- s < 1
    omega
  · exact h
end LsM
namespace LsM
open Rb26

/-! ### the sign of x + y times the root of d, by squares -/
theorem sq_nonneg (x : Int) : 0 ≤ x * x := by
  rcases Int.le_total 0 x with h | h
  · exact Int.mul_nonneg h h
  · exact Int.mul_nonneg_of_nonpos_of_nonpos h h
theorem sq_lt_sq {x y : Int} (hx : 0 ≤ x) (h : x < y) : x * x < y * y := by
  have h1 : x * x ≤ x * y := Int.mul_le_mul_of_nonneg_left (Int.le_of_lt h) hx
  have h2 : x * y < y * y := Int.mul_lt_mul_of_pos_right h (by omega)
  omega
theorem sq_le_sq {x y : Int} (hx : 0 ≤ x) (h : x ≤ y) : x * x ≤ y * y := Int.mul_le_mul h h hx (by omega)
theorem lt_of_sq {x y : Int} (hy : 0 ≤ y) (h : x * x < y * y) : x < y := by
  apply Int.lt_of_not_ge
  intro g
  have := sq_le_sq hy g
  omega
theorem le_of_sq {x y : Int} (hy : 0 ≤ y) (h : x * x ≤ y * y) : x ≤ y := by
  apply Int.le_of_not_gt
  intro g
  have := sq_lt_sq hy g
  omega
/-- x + y times the root of d is above 0 -/
def Pos (x y : Int) (d : Nat) : Prop :=
  (0 ≤ y ∧ 0 ≤ x ∧ (0 < x ∨ 0 < y * y * (d : Int))) ∨ (0 ≤ y ∧ x < 0 ∧ x * x < y * y * (d : Int)) ∨ (y < 0 ∧ 0 < x ∧ y * y * (d : Int) < x * x)

theorem root_facts (y : Int) (d : Nat) : ∃ R : Int, R = ((root (y.natAbs * y.natAbs * d) : Nat) : Int) ∧ 0 ≤ R ∧ R * R ≤ y * y * (d : Int) ∧ y * y * (d : Int) < (R + 1) * (R + 1) ∧
    (square (y.natAbs * y.natAbs * d) = true ↔ R * R = y * y * (d : Int)) := by
  have e : ((y.natAbs * y.natAbs * d : Nat) : Int) = y * y * (d : Int) := by
    rw [Int.natCast_mul, Int.natAbs_mul_self]
  have ⟨g1, g2⟩ := root_ok (y.natAbs * y.natAbs * d)
  refine ⟨_, rfl, Int.natCast_nonneg _, ?_, ?_, ?_⟩
  · rw [← e, ← Int.natCast_mul]
    exact_mod_cast g1
  · rw [← e]
    have : ((y.natAbs * y.natAbs * d : Nat) : Int) < (((root (y.natAbs * y.natAbs * d) + 1) * (root (y.natAbs * y.natAbs * d) + 1) : Nat) : Int) := by exact_mod_cast g2
    rw [Int.natCast_mul] at this
    push_cast at this ⊢
    exact this
  · unfold square
    rw [beq_iff_eq, ← e, ← Int.natCast_mul]
    constructor
    · intro h; rw [h]
    · intro h; exact_mod_cast h

theorem above_iff (x y : Int) (d : Nat) : above x y d = true ↔ Pos x y d := by
  obtain ⟨R, eR, R0, R1, R2, hq⟩ := root_facts y d
  have S0 : 0 ≤ y * y * (d : Int) := Int.mul_nonneg (sq_nonneg y) (Int.natCast_nonneg d)
  unfold above Pos
  unfold rooted
  simp only [← eR]
  generalize hS : y * y * (d : Int) = S at *
  simp only [Bool.or_eq_true, decide_eq_true_eq, Bool.and_eq_true, beq_iff_eq, Bool.not_eq_true']
  by_cases hy : 0 ≤ y
  · simp only [if_pos hy]
    have e2 : (R + 1) * (R + 1) = R * R + 2 * R + 1 := by grind
    by_cases hx : 0 ≤ x
    · constructor
      · intro h
        left
        refine ⟨hy, hx, ?_⟩
        rcases h with h | ⟨h, hs⟩
        · by_cases h0 : 0 < x
          · exact Or.inl h0
          · right
            have : 1 * 1 ≤ R * R := sq_le_sq (by omega) (by omega)
            omega
        · exfalso
          have r0 : R = 0 := by omega
          rw [r0] at hq R2
          have : S = 0 := by omega
          have := hq.mpr (by omega)
          rw [this] at hs
          cases hs
      · intro h
        rcases h with ⟨_, _, h⟩ | ⟨_, h, _⟩ | ⟨h, _⟩
        · left
          rcases h with h | h
          · omega
          · have : R ≠ 0 := by intro r0; rw [r0] at R2; omega
            omega
        · omega
        · omega
    · constructor
      · intro h
        right; left
        refine ⟨hy, by omega, ?_⟩
        rcases h with h | ⟨h, hs⟩
        · have := sq_lt_sq (x := -x) (y := R) (by omega) (by omega)
          rw [Int.neg_mul_neg] at this
          omega
        · have eq : -x = R := by omega
          have : ¬ R * R = S := by
            intro h2
            rw [hq.mpr h2] at hs
            cases hs
          have e3 : x * x = R * R := by rw [← eq, Int.neg_mul_neg]
          omega
      · intro h
        rcases h with ⟨_, h, _⟩ | ⟨_, _, h⟩ | ⟨h, _⟩
        · omega
        · have h1 : -x < R + 1 := lt_of_sq (by omega) (by rw [Int.neg_mul_neg]; omega)
          by_cases h2 : 0 < x + R
          · exact Or.inl h2
          · right
            refine ⟨by omega, ?_⟩
            have eq : -x = R := by omega
            have e3 : x * x = R * R := by rw [← eq, Int.neg_mul_neg]
            cases hs : square (y.natAbs * y.natAbs * d) with
            | false => rfl
            | true => exfalso; have := hq.mp hs; omega
        · omega
  · simp only [if_neg hy]
    have e2 : (R + 1) * (R + 1) = R * R + 2 * R + 1 := by grind
    cases hs : square (y.natAbs * y.natAbs * d) with
    | true =>
      have hE := hq.mp hs
      simp only [if_true]
      constructor
      · intro h
        right; right
        rcases h with h | ⟨_, h⟩
        · refine ⟨by omega, by omega, ?_⟩
          have := sq_lt_sq (x := R) (y := x) R0 (by omega)
          omega
        · cases h
      · intro h
        rcases h with ⟨h, _⟩ | ⟨h, _⟩ | ⟨_, h1, h2⟩
        · omega
        · omega
        · left
          have := lt_of_sq (x := R) (y := x) (by omega) (by omega)
          omega
    | false =>
      have hE : ¬ R * R = S := by intro h; rw [hq.mpr h] at hs; cases hs
      simp only [Bool.false_eq_true, if_false]
      constructor
      · intro h
        right; right
        have hx : R + 1 ≤ x := by
          rcases h with h | ⟨h, _⟩ <;> omega
        refine ⟨by omega, by omega, ?_⟩
        have := sq_le_sq (x := R + 1) (y := x) (by omega) hx
        omega
      · intro h
        rcases h with ⟨h, _⟩ | ⟨h, _⟩ | ⟨_, h1, h2⟩
        · omega
        · omega
        · have : R < x := lt_of_sq (x := R) (y := x) (by omega) (by omega)
          by_cases h3 : 0 < x + (-R - 1)
          · exact Or.inl h3
          · right; exact ⟨by omega, by simp⟩
end LsM
namespace LsM
open Rb26
theorem mul_lt_mul2 {a b c e : Int} (ha : 0 ≤ a) (hc : 0 ≤ c) (h1 : a < b) (h2 : c < e) : a * c < b * e := by
  have g1 : a * c ≤ b * c := Int.mul_le_mul_of_nonneg_right (Int.le_of_lt h1) hc
  have g2 : b * c < b * e := Int.mul_lt_mul_of_pos_left h2 (by omega)
  omega
theorem pos_of_mul {x y : Int} (hx : 0 ≤ x) (h : 0 < x * y) : 0 < x ∧ 0 < y := by
  have x0 : x ≠ 0 := by intro h0; rw [h0] at h; simp at h
  have xp : 0 < x := by omega
  refine ⟨xp, ?_⟩
  apply Int.lt_of_not_ge
  intro g
  have := Int.mul_nonpos_of_nonneg_of_nonpos hx g
  omega
theorem sq_pos {x : Int} (h : x ≠ 0) : 0 < x * x := by
  rcases (by omega : 0 < x ∨ 0 < -x) with g | g
  · exact Int.mul_pos g g
  · have := Int.mul_pos g g
    rw [Int.neg_mul_neg] at this
    exact this
section
variable {x y x' y' D : Int}
/-- both below 0 ahead, both roots added -/
theorem pp_a {u w : Int} (hD : 0 ≤ D) (hu : 0 ≤ u) (hw : 0 ≤ w) (hy : 0 ≤ y) (hy' : 0 ≤ y') (h1 : u * u < y * y * D) (h2 : w * w < y' * y' * D) : (u + w) * (u + w) < (y + y') * (y + y') * D := by
  have c : (u * w) * (u * w) < (y * y' * D) * (y * y' * D) := by
    have := mul_lt_mul2 (sq_nonneg u) (sq_nonneg w) h1 h2
    grind
  have c' : u * w < y * y' * D := lt_of_sq (Int.mul_nonneg (Int.mul_nonneg hy hy') hD) c
  grind
theorem pp_b {u w : Int} (hD : 0 ≤ D) (hu : 0 ≤ u) (hw : 0 ≤ w) (hy : 0 ≤ y) (hy' : 0 ≤ y') (h1 : y * y * D < u * u) (h2 : y' * y' * D < w * w) : (y + y') * (y + y') * D < (u + w) * (u + w) := by
  have c : (y * y' * D) * (y * y' * D) < (u * w) * (u * w) := by
    have := mul_lt_mul2 (Int.mul_nonneg (sq_nonneg y) hD) (Int.mul_nonneg (sq_nonneg y') hD) h1 h2
    grind
  have c' : y * y' * D < u * w := lt_of_sq (Int.mul_nonneg hu hw) c
  grind
/-- u below y roots, v above z roots: u z below y v -/
theorem pp_cross {u v z : Int} (hu : 0 ≤ u) (hv : 0 ≤ v) (hy : 0 ≤ y) (hz : 0 < z) (h1 : u * u < y * y * D) (h2 : z * z * D < v * v) : u * z < y * v := by
  have hz2 : 0 < z * z := Int.mul_pos hz hz
  have c1 : (u * u) * (z * z) < (y * y * D) * (z * z) := Int.mul_lt_mul_of_pos_right h1 hz2
  have c2 : (y * y) * (z * z * D) ≤ (y * y) * (v * v) := Int.mul_le_mul_of_nonneg_left (Int.le_of_lt h2) (sq_nonneg y)
  refine lt_of_sq (Int.mul_nonneg hy hv) ?_
  grind
theorem lt_of_mul_lt {k p q : Int} (hk : 0 < k) (h : k * p < k * q) : p < q := by
  apply Int.lt_of_not_ge
  intro g
  have := Int.mul_le_mul_of_nonneg_left g (Int.le_of_lt hk)
  omega
theorem pp_c {u v z : Int} (hD : 0 ≤ D) (hu : 0 ≤ u) (hv : 0 ≤ v) (hy : 0 ≤ y) (hz : 0 < z) (h1 : u * u < y * y * D) (h2 : z * z * D < v * v) (h3 : v < u) : (u - v) * (u - v) < (y - z) * (y - z) * D ∧ z < y := by
  have c := pp_cross hu hv hy hz h1 h2
  have yp : 0 < y := by
    have : 0 < y * v := Int.lt_of_le_of_lt (Int.mul_nonneg hu (Int.le_of_lt hz)) c
    exact (pos_of_mul hy this).1
  have g1 : y * (u - v) < u * (y - z) := by grind
  have g0 : 0 ≤ y * (u - v) := Int.mul_nonneg hy (by omega)
  have g2 := sq_lt_sq g0 g1
  have g3 : (u * u) * ((y - z) * (y - z)) ≤ (y * y * D) * ((y - z) * (y - z)) := Int.mul_le_mul_of_nonneg_right (Int.le_of_lt h1) (sq_nonneg _)
  have zy : z < y := by
    have : 0 < u * (y - z) := Int.lt_of_le_of_lt g0 g1
    have := (pos_of_mul hu this).2
    omega
  refine ⟨?_, zy⟩
  apply lt_of_mul_lt (Int.mul_pos yp yp)
  grind
theorem pp_d {u v z : Int} (hD : 0 ≤ D) (hu : 0 ≤ u) (hv : 0 < v) (hy : 0 ≤ y) (hz : 0 < z) (h1 : u * u < y * y * D) (h2 : z * z * D < v * v) (h3 : y < z) : (z - y) * (z - y) * D < (v - u) * (v - u) ∧ u < v := by
  have c := pp_cross hu (Int.le_of_lt hv) hy hz h1 h2
  have uv : u < v := by
    have : y * v < z * v := Int.mul_lt_mul_of_pos_right h3 hv
    apply lt_of_mul_lt hz
    grind
  have g1 : v * (z - y) < z * (v - u) := by grind
  have g0 : 0 ≤ v * (z - y) := Int.mul_nonneg (Int.le_of_lt hv) (by omega)
  have g2 := sq_lt_sq g0 g1
  have g3 : (z * z * D) * ((z - y) * (z - y)) ≤ (v * v) * ((z - y) * (z - y)) := Int.mul_le_mul_of_nonneg_right (Int.le_of_lt h2) (sq_nonneg _)
  refine ⟨?_, uv⟩
  apply lt_of_mul_lt (Int.mul_pos hz hz)
  grind
end
/-- one root added, one taken off -/
theorem Pos.add_mixed {x y x' y' : Int} {d : Nat} (hy : 0 ≤ y) (hy' : y' < 0) (h : Pos x y d) (h' : Pos x' y' d) : Pos (x + x') (y + y') d := by
  have hD : (0 : Int) ≤ (d : Int) := Int.natCast_nonneg d
  unfold Pos at *
  generalize (d : Int) = D at *
  obtain ⟨_, v0, h2⟩ : y' < 0 ∧ 0 < x' ∧ y' * y' * D < x' * x' := by
    rcases h' with h' | h' | h'
    · omega
    · omega
    · exact h'
  have h2' : (-y') * (-y') * D < x' * x' := by rw [Int.neg_mul_neg]; exact h2
  by_cases hx : 0 ≤ x
  · by_cases hyy : 0 ≤ y + y'
    · left
      exact ⟨hyy, by omega, Or.inl (by omega)⟩
    · right; right
      refine ⟨by omega, by omega, ?_⟩
      have a1 : (-(y + y')) * (-(y + y')) ≤ (-y') * (-y') := sq_le_sq (by omega) (by omega)
      have a2 : x' * x' ≤ (x + x') * (x + x') := sq_le_sq (by omega) (by omega)
      rw [Int.neg_mul_neg] at a1
      have a3 := Int.mul_le_mul_of_nonneg_right a1 hD
      omega
  · have h1 : x * x < y * y * D := by
      rcases h with h | h | h
      · omega
      · exact h.2.2
      · omega
    have h1' : (-x) * (-x) < y * y * D := by rw [Int.neg_mul_neg]; exact h1
    by_cases hyy : 0 ≤ y + y'
    · by_cases hxx : 0 ≤ x + x'
      · left
        refine ⟨hyy, hxx, ?_⟩
        by_cases h0 : 0 < x + x'
        · exact Or.inl h0
        · right
          have e : x' = -x := by omega
          have c := pp_cross (u := -x) (v := x') (z := -y') (by omega) (by omega) hy (by omega) h1' h2'
          rw [e] at c
          have : y + y' ≠ 0 := by
            intro h0
            have : -y' = y := by omega
            rw [this, Int.mul_comm] at c
            omega
          have Dp : 0 < D := by
            have := sq_nonneg x
            exact (pos_of_mul (sq_nonneg y) (by omega)).2
          exact Int.mul_pos (sq_pos this) Dp
      · right; left
        have ⟨c, _⟩ := pp_c (u := -x) (v := x') (z := -y') hD (by omega) (by omega) hy (by omega) h1' h2' (by omega)
        refine ⟨hyy, by omega, ?_⟩
        have e1 : (-x - x') * (-x - x') = (x + x') * (x + x') := by grind
        have e2 : y - -y' = y + y' := by omega
        rw [e1, e2] at c
        exact c
    · right; right
      have ⟨c, l⟩ := pp_d (u := -x) (v := x') (z := -y') hD (by omega) (by omega) hy (by omega) h1' h2' (by omega)
      refine ⟨by omega, by omega, ?_⟩
      have e1 : (-y' - y) * (-y' - y) = (y + y') * (y + y') := by grind
      have e2 : x' - -x = x + x' := by omega
      rw [e1, e2] at c
      exact c
theorem Pos.add {x y x' y' : Int} {d : Nat} (h : Pos x y d) (h' : Pos x' y' d) : Pos (x + x') (y + y') d := by
  by_cases hy : 0 ≤ y
  · by_cases hy' : 0 ≤ y'
    · have hD : (0 : Int) ≤ (d : Int) := Int.natCast_nonneg d
      unfold Pos at *
      generalize (d : Int) = D at *
      have m1 : y * y ≤ (y + y') * (y + y') := sq_le_sq hy (by omega)
      have m2 : y' * y' ≤ (y + y') * (y + y') := sq_le_sq hy' (by omega)
      have m1 := Int.mul_le_mul_of_nonneg_right m1 hD
      have m2 := Int.mul_le_mul_of_nonneg_right m2 hD
      have n1 := sq_nonneg x
      have n2 := sq_nonneg x'
      rcases h with ⟨_, h1, h2⟩ | ⟨_, h1, h2⟩ | ⟨h, _⟩
      · rcases h' with ⟨_, h1', h2'⟩ | ⟨_, h1', h2'⟩ | ⟨h', _⟩
        · left
          refine ⟨by omega, by omega, ?_⟩
          rcases h2 with h2 | h2
          · left; omega
          · right; omega
        · by_cases g : 0 ≤ x + x'
          · left
            exact ⟨by omega, g, Or.inr (by omega)⟩
          · right; left
            have : (-(x + x')) * (-(x + x')) ≤ (-x') * (-x') := sq_le_sq (by omega) (by omega)
            rw [Int.neg_mul_neg, Int.neg_mul_neg] at this
            exact ⟨by omega, by omega, by omega⟩
        · omega
      · rcases h' with ⟨_, h1', h2'⟩ | ⟨_, h1', h2'⟩ | ⟨h', _⟩
        · by_cases g : 0 ≤ x + x'
          · left
            exact ⟨by omega, g, Or.inr (by omega)⟩
          · right; left
            have : (-(x + x')) * (-(x + x')) ≤ (-x) * (-x) := sq_le_sq (by omega) (by omega)
            rw [Int.neg_mul_neg, Int.neg_mul_neg] at this
            exact ⟨by omega, by omega, by omega⟩
        · right; left
          have c := pp_a (u := -x) (w := -x') hD (by omega) (by omega) hy hy' (by rw [Int.neg_mul_neg]; exact h2) (by rw [Int.neg_mul_neg]; exact h2')
          have e : (-x + -x') * (-x + -x') = (x + x') * (x + x') := by grind
          rw [e] at c
          exact ⟨by omega, by omega, c⟩
        · omega
      · omega
    · exact Pos.add_mixed hy (by omega) h h'
  · by_cases hy' : 0 ≤ y'
    · have := Pos.add_mixed hy' (by omega) h' h
      rw [Int.add_comm x x', Int.add_comm y y']
      exact this
    · have hD : (0 : Int) ≤ (d : Int) := Int.natCast_nonneg d
      unfold Pos at *
      generalize (d : Int) = D at *
      rcases h with h | h | ⟨_, h1, h2⟩
      · omega
      · omega
      · rcases h' with h' | h' | ⟨_, h1', h2'⟩
        · omega
        · omega
        · right; right
          have c := pp_b (y := -y) (y' := -y') (u := x) (w := x') hD (by omega) (by omega) (by omega) (by omega) (by rw [Int.neg_mul_neg]; exact h2) (by rw [Int.neg_mul_neg]; exact h2')
          have e : (-y + -y') * (-y + -y') = (y + y') * (y + y') := by grind
          rw [e] at c
          exact ⟨by omega, by omega, c⟩
theorem Pos.not_neg {x y : Int} {d : Nat} (h : Pos x y d) : ¬ Pos (-x) (-y) d := by
  intro g
  have := h.add g
  rw [Int.add_right_neg, Int.add_right_neg] at this
  unfold Pos at this
  simp at this
end LsM
namespace LsM
open Rb26
theorem square_iff (d : Nat) : square d = true ↔ ∃ r : Nat, r * r = d := by
  unfold square
  rw [beq_iff_eq]
  constructor
  · intro h; exact ⟨_, h⟩
  · intro ⟨r, h⟩
    have : r = root d := root_unique (by omega) (by rw [← h]; exact Nat.mul_lt_mul_of_lt_of_le (by omega) (by omega) (by omega))
    rw [← this, h]
/-- where d is a square, all is whole -/
theorem Pos_square {x y : Int} {r : Nat} : Pos x y (r * r) ↔ 0 < x + y * (r : Int) := by
  have e : y * y * ((r * r : Nat) : Int) = (y * (r : Int)) * (y * (r : Int)) := by
    rw [Int.natCast_mul]; grind
  have hr : (0 : Int) ≤ (r : Int) := Int.natCast_nonneg r
  unfold Pos
  rw [e]
  by_cases hy : 0 ≤ y
  · have hz : 0 ≤ y * (r : Int) := Int.mul_nonneg hy hr
    generalize y * (r : Int) = z at *
    constructor
    · rintro (⟨_, h1, h2⟩ | ⟨_, h1, h2⟩ | h)
      · rcases h2 with h2 | h2
        · omega
        · have := (pos_of_mul hz h2).1; omega
      · have := lt_of_sq (x := -x) hz (by rw [Int.neg_mul_neg]; exact h2)
        omega
      · omega
    · intro h
      by_cases hx : 0 ≤ x
      · left
        refine ⟨hy, hx, ?_⟩
        by_cases h0 : 0 < x
        · exact Or.inl h0
        · exact Or.inr (Int.mul_pos (by omega) (by omega))
      · right; left
        have := sq_lt_sq (x := -x) (y := z) (by omega) (by omega)
        rw [Int.neg_mul_neg] at this
        exact ⟨hy, by omega, this⟩
  · have hz : y * (r : Int) ≤ 0 := Int.mul_nonpos_of_nonpos_of_nonneg (by omega) hr
    generalize y * (r : Int) = z at *
    constructor
    · rintro (h | h | ⟨_, h1, h2⟩)
      · omega
      · omega
      · have := lt_of_sq (x := -z) (y := x) (by omega) (by rw [Int.neg_mul_neg]; exact h2)
        omega
    · intro h
      right; right
      have := sq_lt_sq (x := -z) (y := x) (by omega) (by omega)
      rw [Int.neg_mul_neg] at this
      exact ⟨by omega, by omega, this⟩
theorem sq_of_mul {x y d : Nat} (hy : y ≠ 0) (h : x * x = y * y * d) : ∃ r : Nat, r * r = d := by
  have h1 : y ^ 2 ∣ x ^ 2 := ⟨d, by rw [Nat.pow_two, Nat.pow_two]; exact h⟩
  obtain ⟨k, hk⟩ := (Nat.pow_dvd_pow_iff (by decide)).mp h1
  refine ⟨k, ?_⟩
  have yy : 0 < y * y := Nat.mul_pos (by omega) (by omega)
  apply Nat.eq_of_mul_eq_mul_left yy
  rw [← h, hk]
  grind
/-- where d is no square, nothing but 0 and 0 comes to 0 -/
theorem Pos_three {x y : Int} {d : Nat} (hd : square d = false) (h1 : ¬ Pos x y d) (h2 : ¬ Pos (-x) (-y) d) : x = 0 ∧ y = 0 := by
  have key : x * x = y * y * (d : Int) → x = 0 ∧ y = 0 := by
    intro h
    by_cases hy : y = 0
    · subst hy
      refine ⟨?_, rfl⟩
      by_cases hx : x = 0
      · exact hx
      · have := sq_pos hx; simp at h; omega
    · exfalso
      have : x.natAbs * x.natAbs = y.natAbs * y.natAbs * d := by
        have : ((x.natAbs * x.natAbs : Nat) : Int) = ((y.natAbs * y.natAbs * d : Nat) : Int) := by
          rw [Int.natAbs_mul_self, Int.natCast_mul, Int.natAbs_mul_self]; exact h
        exact_mod_cast this
      have := (square_iff d).mpr (sq_of_mul (by omega) this)
      rw [this] at hd
      cases hd
  have hD : (0 : Int) ≤ (d : Int) := Int.natCast_nonneg d
  have S0 : 0 ≤ y * y * (d : Int) := Int.mul_nonneg (sq_nonneg y) hD
  unfold Pos at h1 h2
  simp only [Int.neg_mul_neg] at h2
  by_cases hy : 0 ≤ y
  · by_cases hx : 0 ≤ x
    · have a : ¬ (0 < x ∨ 0 < y * y * (d : Int)) := fun g => h1 (Or.inl ⟨hy, hx, g⟩)
      have x0 : x = 0 := by omega
      subst x0
      exact key (by simp; omega)
    · have a : ¬ x * x < y * y * (d : Int) := fun g => h1 (Or.inr (Or.inl ⟨hy, by omega, g⟩))
      by_cases y0 : y = 0
      · subst y0
        exfalso
        apply h2
        left
        exact ⟨by omega, by omega, Or.inl (by omega)⟩
      · have b : ¬ y * y * (d : Int) < x * x := fun g => h2 (Or.inr (Or.inr ⟨by omega, by omega, g⟩))
        exact key (by omega)
  · by_cases hx : 0 < x
    · have a : ¬ y * y * (d : Int) < x * x := fun g => h1 (Or.inr (Or.inr ⟨by omega, hx, g⟩))
      have b : ¬ x * x < y * y * (d : Int) := fun g => h2 (Or.inr (Or.inl ⟨by omega, by omega, g⟩))
      exact key (by omega)
    · have a : ¬ (0 < -x ∨ 0 < y * y * (d : Int)) := fun g => h2 (Or.inl ⟨by omega, by omega, g⟩)
      have x0 : x = 0 := by omega
      subst x0
      exact key (by simp; omega)
/-- not below 0, and above 0 -/
theorem Pos.add_nonneg {x y x' y' : Int} {d : Nat} (h : ¬ Pos (-x) (-y) d) (h' : Pos x' y' d) : Pos (x + x') (y + y') d := by
  cases hs : square d with
  | true =>
    obtain ⟨r, hr⟩ := (square_iff d).mp hs
    subst hr
    rw [Pos_square] at *
    rw [Int.neg_mul] at h
    rw [Int.add_mul]
    omega
  | false =>
    by_cases g : Pos x y d
    · exact g.add h'
    · obtain ⟨e1, e2⟩ := Pos_three hs g h
      subst e1 e2
      rw [Int.zero_add, Int.zero_add]
      exact h'
theorem nonneg_add {x y x' y' : Int} {d : Nat} (h : ¬ Pos (-x) (-y) d) (h' : ¬ Pos (-x') (-y') d) : ¬ Pos (-(x + x')) (-(y + y')) d := by
  intro g
  have := Pos.add_nonneg h g
  apply h'
  have e1 : x + -(x + x') = -x' := by omega
  have e2 : y + -(y + y') = -y' := by omega
  rw [e1, e2] at this
  exact this
/-- so many times -/
theorem Pos_scale {k x y : Int} {d : Nat} (hk : 0 < k) : Pos (k * x) (k * y) d ↔ Pos x y d := by
  have hD : (0 : Int) ≤ (d : Int) := Int.natCast_nonneg d
  have kk : 0 < k * k := Int.mul_pos hk hk
  have e1 : (k * y) * (k * y) * (d : Int) = (k * k) * (y * y * (d : Int)) := by grind
  have e2 : (k * x) * (k * x) = (k * k) * (x * x) := by grind
  have s1 : ∀ z : Int, 0 ≤ k * z ↔ 0 ≤ z := fun z => ⟨fun h => by
    apply Int.le_of_not_gt; intro g
    have := Int.mul_neg_of_pos_of_neg hk g
    omega, fun h => Int.mul_nonneg (Int.le_of_lt hk) h⟩
  have s2 : ∀ z : Int, 0 < k * z ↔ 0 < z := fun z => ⟨fun h => (pos_of_mul (Int.le_of_lt hk) h).2, fun h => Int.mul_pos hk h⟩
  have s3 : ∀ z : Int, k * z < 0 ↔ z < 0 := fun z => by have := s1 z; omega
  have s4 : ∀ p q : Int, (k * k) * p < (k * k) * q ↔ p < q := fun p q => ⟨lt_of_mul_lt kk, fun h => Int.mul_lt_mul_of_pos_left h kk⟩
  have s5 : 0 < (k * k) * (y * y * (d : Int)) ↔ 0 < y * y * (d : Int) := ⟨fun h => (pos_of_mul (Int.le_of_lt kk) h).2, fun h => Int.mul_pos kk h⟩
  unfold Pos
  rw [e1, e2, s1, s1, s2, s3, s3, s4, s4, s5]
end LsM
namespace LsM
open Rb26
/-- what's no more is told by whole numbers: x at most y roots -/
theorem Pos_le {x x' y : Int} {d : Nat} (hx : x ≤ x') (h : Pos x y d) : Pos x' y d := by
  by_cases e : x = x'
  · rw [← e]; exact h
  · have : Pos (x' - x) 0 d := Or.inl ⟨by omega, by omega, Or.inl (by omega)⟩
    have := h.add this
    rw [Int.add_zero] at this
    have e2 : x + (x' - x) = x' := by omega
    rw [e2] at this
    exact this
theorem rooted_floor (y : Int) (d : Nat) : ¬ Pos (rooted y d) (-y) d ∧ Pos (rooted y d + 1) (-y) d := by
  obtain ⟨R, eR, R0, R1, R2, hq⟩ := root_facts y d
  have S0 : 0 ≤ y * y * (d : Int) := Int.mul_nonneg (sq_nonneg y) (Int.natCast_nonneg d)
  unfold Pos rooted
  simp only [← eR, Int.neg_mul_neg]
  generalize hS : y * y * (d : Int) = S at *
  have e2 : (R + 1) * (R + 1) = R * R + 2 * R + 1 := by grind
  by_cases hy : 0 ≤ y
  · simp only [if_pos hy]
    constructor
    · rintro (⟨h1, h2, h3⟩ | ⟨h1, h2, h3⟩ | ⟨h1, h2, h3⟩)
      · have y0 : y = 0 := by omega
        subst y0
        simp at hS
        have : R = 0 := by
          have := sq_nonneg R
          by_cases r : R = 0
          · exact r
          · have := sq_pos r; omega
        omega
      · omega
      · omega
    · by_cases y0 : y = 0
      · left
        exact ⟨by omega, by omega, Or.inl (by omega)⟩
      · right; right
        exact ⟨by omega, by omega, R2⟩
  · simp only [if_neg hy]
    by_cases hs : square (y.natAbs * y.natAbs * d) = true
    · simp only [if_pos hs]
      have hE := hq.mp hs
      constructor
      · rintro (⟨h1, h2, h3⟩ | ⟨h1, h2, h3⟩ | ⟨h1, h2, h3⟩)
        · have r0 : R = 0 := by omega
          rw [r0] at hE
          omega
        · rw [Int.neg_mul_neg] at h3
          omega
        · omega
      · by_cases r : R = 0
        · left
          exact ⟨by omega, by omega, Or.inl (by omega)⟩
        · by_cases r1 : 0 ≤ -R + 1
          · left
            refine ⟨by omega, r1, Or.inr ?_⟩
            have := sq_pos r
            omega
          · right; left
            refine ⟨by omega, by omega, ?_⟩
            have : (R - 1) * (R - 1) < R * R := sq_lt_sq (by omega) (by omega)
            have e3 : (-R + 1) * (-R + 1) = (R - 1) * (R - 1) := by grind
            omega
    · simp only [if_neg hs]
      have hE : ¬ R * R = S := fun h => hs (hq.mpr h)
      constructor
      · rintro (⟨h1, h2, h3⟩ | ⟨h1, h2, h3⟩ | ⟨h1, h2, h3⟩)
        · omega
        · have e3 : (-R - 1) * (-R - 1) = (R + 1) * (R + 1) := by grind
          omega
        · omega
      · have e4 : -R - 1 + 1 = -R := by omega
        rw [e4]
        by_cases r : R = 0
        · left
          refine ⟨by omega, by omega, Or.inr ?_⟩
          rw [r] at R1 hE
          omega
        · right; left
          refine ⟨by omega, by omega, ?_⟩
          rw [Int.neg_mul_neg]
          omega
/-- **A height is no more than the line there, and one more is more.** -/
theorem at_floor (L : Line) (n : Int) (hc : 0 < L.c) :
    ¬ Pos (L.c * L.at_ n - L.a * n) (-(L.b * n)) L.d ∧ Pos (L.c * (L.at_ n + 1) - L.a * n) (-(L.b * n)) L.d := by
  obtain ⟨f1, f2⟩ := rooted_floor (L.b * n) L.d
  unfold Line.at_
  generalize rooted (L.b * n) L.d = R at *
  have e : (L.a * n + R).fdiv L.c = (L.a * n + R) / L.c := Int.fdiv_eq_ediv_of_nonneg _ (Int.le_of_lt hc)
  rw [e]
  have m0 := Int.emod_nonneg (L.a * n + R) (Int.ne_of_gt hc)
  have m1 := Int.emod_lt_of_pos (L.a * n + R) hc
  have dv := Int.mul_ediv_add_emod (L.a * n + R) L.c
  generalize (L.a * n + R) / L.c = q at *
  constructor
  · intro h
    exact f1 (Pos_le (by omega) h)
  · refine Pos_le ?_ f2
    rw [Int.mul_add, Int.mul_one]
    omega
theorem at_unique {L : Line} {n h : Int} (hc : 0 < L.c) (h1 : ¬ Pos (L.c * h - L.a * n) (-(L.b * n)) L.d) (h2 : Pos (L.c * (h + 1) - L.a * n) (-(L.b * n)) L.d) : h = L.at_ n := by
  obtain ⟨g1, g2⟩ := at_floor L n hc
  rcases (by omega : h = L.at_ n ∨ h + 1 ≤ L.at_ n ∨ L.at_ n + 1 ≤ h) with e | e | e
  · exact e
  · exfalso
    apply g1
    refine Pos_le ?_ h2
    have := Int.mul_le_mul_of_nonneg_left e (Int.le_of_lt hc)
    omega
  · exfalso
    apply h1
    refine Pos_le ?_ g2
    have := Int.mul_le_mul_of_nonneg_left e (Int.le_of_lt hc)
    omega
/-- the same line by other numbers -/
theorem at_scale {a b c n k : Int} {d : Nat} (hc : 0 < c) (hk : 0 < k) : (⟨k * a, k * b, k * c, d⟩ : Line).at_ n = (⟨a, b, c, d⟩ : Line).at_ n := by
  symm
  obtain ⟨g1, g2⟩ := at_floor ⟨a, b, c, d⟩ n hc
  generalize (⟨a, b, c, d⟩ : Line).at_ n = h at *
  refine at_unique (L := ⟨k * a, k * b, k * c, d⟩) (Int.mul_pos hk hc) ?_ ?_
  · intro g
    apply g1
    rw [← Pos_scale hk]
    have e1 : k * (c * h - a * n) = k * c * h - k * a * n := by grind
    have e2 : k * (-(b * n)) = -(k * b * n) := by grind
    show Pos (k * (c * h - a * n)) (k * (-(b * n))) d
    rw [e1, e2]
    exact g
  · have := (Pos_scale hk).mpr g2
    have e1 : k * (c * (h + 1) - a * n) = k * c * (h + 1) - k * a * n := by grind
    have e2 : k * (-(b * n)) = -(k * b * n) := by grind
    show Pos (k * c * (h + 1) - k * a * n) (-(k * b * n)) d
    rw [← e1, ← e2]
    exact this
end LsM
namespace LsM
open Rb26
/-! ### a line never turns back -/
theorem at_mono_up {L : Line} (hc : 0 < L.c) (hs : ¬ Pos (-L.a) (-L.b) L.d) {m n : Int} (h : m ≤ n) : L.at_ m ≤ L.at_ n := by
  obtain ⟨g1, _⟩ := at_floor L m hc
  obtain ⟨_, g4⟩ := at_floor L n hc
  apply Int.le_of_not_gt
  intro hlt
  -- L.at_ n + 1 ≤ L.at_ m
  apply g1
  have hk : ¬ Pos (-((n - m) * L.a)) (-((n - m) * L.b)) L.d := by
    rcases (by omega : n - m = 0 ∨ 0 < n - m) with e | e
    · rw [e]
      intro hp
      simp only [Int.zero_mul] at hp
      exact Pos.not_neg hp hp
    · intro hp
      apply hs
      have e1 : -((n - m) * L.a) = (n - m) * (-L.a) := by grind
      have e2 : -((n - m) * L.b) = (n - m) * (-L.b) := by grind
      rw [e1, e2] at hp
      exact (Pos_scale e).mp hp
  have := Pos.add_nonneg hk g4
  have e1 : (n - m) * L.b + -(L.b * n) = -(L.b * m) := by grind
  rw [e1] at this
  refine Pos_le ?_ this
  have e2 : (n - m) * L.a + (L.c * (L.at_ n + 1) - L.a * n) = L.c * (L.at_ n + 1) - L.a * m := by grind
  rw [e2]
  have := Int.mul_le_mul_of_nonneg_left (show L.at_ n + 1 ≤ L.at_ m from hlt) (Int.le_of_lt hc)
  omega
theorem at_mono_down {L : Line} (hc : 0 < L.c) (hs : ¬ Pos L.a L.b L.d) {m n : Int} (h : m ≤ n) : L.at_ n ≤ L.at_ m := by
  obtain ⟨g1, _⟩ := at_floor L n hc
  obtain ⟨_, g4⟩ := at_floor L m hc
  apply Int.le_of_not_gt
  intro hlt
  apply g1
  have hk : ¬ Pos (-((n - m) * (-L.a))) (-((n - m) * (-L.b))) L.d := by
    rcases (by omega : n - m = 0 ∨ 0 < n - m) with e | e
    · rw [e]
      intro hp
      simp only [Int.zero_mul] at hp
      exact Pos.not_neg hp hp
    · intro hp
      apply hs
      have e1 : -((n - m) * (-L.a)) = (n - m) * L.a := by grind
      have e2 : -((n - m) * (-L.b)) = (n - m) * L.b := by grind
      rw [e1, e2] at hp
      exact (Pos_scale e).mp hp
  have := Pos.add_nonneg hk g4
  have e1 : (n - m) * (-L.b) + -(L.b * m) = -(L.b * n) := by grind
  rw [e1] at this
  refine Pos_le ?_ this
  have e2 : (n - m) * (-L.a) + (L.c * (L.at_ m + 1) - L.a * m) = L.c * (L.at_ m + 1) - L.a * n := by grind
  rw [e2]
  have := Int.mul_le_mul_of_nonneg_left (show L.at_ m + 1 ≤ L.at_ n from hlt) (Int.le_of_lt hc)
  omega
theorem rooted_zero (d : Nat) : rooted 0 d = 0 := by
  unfold rooted
  have e : (0 : Int).natAbs * (0 : Int).natAbs * d = 0 := by simp
  simp only [e]
  have : root 0 = 0 := (root_unique (n := 0) (r := 0) (by decide) (by decide)).symm
  rw [this]
  rfl
theorem at_zero (L : Line) : L.at_ 0 = 0 := by
  unfold Line.at_
  rw [Int.mul_zero, Int.mul_zero, rooted_zero]
  simp
/-- a height above 0 behind 0: the line rises -/
theorem rises {L : Line} (hc : 0 < L.c) {n : Int} (hn : 0 ≤ n) (h : 0 < L.at_ n) : ¬ Pos (-L.a) (-L.b) L.d := by
  intro hp
  have : ¬ Pos L.a L.b L.d := by
    intro g
    exact g.not_neg hp
  have := at_mono_down hc this hn
  rw [at_zero] at this
  omega
theorem falls {L : Line} (hc : 0 < L.c) (h : L.at_ 1 < 0) : ¬ Pos L.a L.b L.d := by
  intro hp
  have := at_mono_up (m := 0) (n := 1) hc hp.not_neg (by decide)
  rw [at_zero] at this
  omega
theorem rises1 {L : Line} (hc : 0 < L.c) (h : 0 ≤ L.at_ 1) : ¬ Pos (-L.a) (-L.b) L.d := by
  intro hp
  -- at_ 1 ≥ 0 means c*0 - a*1 is not above b roots
  obtain ⟨g1, _⟩ := at_floor L 1 hc
  apply g1
  rw [Int.mul_one, Int.mul_one]
  refine Pos_le ?_ hp
  have := Int.mul_nonneg (Int.le_of_lt hc) h
  omega
end LsM
namespace LsM
open Rb26
/-! ### the program's own numbers -/
noncomputable def times : Int → Int → Int := (boxed fun (f d : Int) => rooted f d.toNat).1
theorem times_def (f d : Int) : times f d = rooted f d.toNat := by
  have h : times = fun (f d : Int) => rooted f d.toNat := (boxed _).2
  rw [h]
noncomputable def hgt : Int → Int → Int → Int → Int → Int := (boxed fun (a b c d n : Int) => (⟨a, b, c, d.toNat⟩ : Line).at_ n).1
theorem hgt_def (a b c d n : Int) : hgt a b c d n = (⟨a, b, c, d.toNat⟩ : Line).at_ n := by
  have h : hgt = fun (a b c d n : Int) => (⟨a, b, c, d.toNat⟩ : Line).at_ n := (boxed _).2
  rw [h]
theorem natAbs_sq (f : Int) : ((f.natAbs * f.natAbs : Nat) : Int) = f * f := Int.natAbs_mul_self
theorem times_nonneg {f d : Int} (hd : 0 ≤ d) (hf : f ≥ 0) : wroot (f * f * d) = times f d := by
  have e : (f * f * d).toNat = f.natAbs * f.natAbs * d.toNat := by
    have : ((f.natAbs * f.natAbs * d.toNat : Nat) : Int) = f * f * d := by
      rw [Int.natCast_mul, natAbs_sq, Int.toNat_of_nonneg hd]
    omega
  rw [times_def, wroot_def]; unfold rooted
  rw [e]
  simp only [if_pos (show (0 : Int) ≤ f from hf)]
theorem times_neg {f d : Int} (hd : 0 ≤ d) (hf : ¬ f ≥ 0) (hq : wroot (f * f * d) * wroot (f * f * d) = f * f * d) : -wroot (f * f * d) = times f d := by
  have e0 : ((f.natAbs * f.natAbs * d.toNat : Nat) : Int) = f * f * d := by
    rw [Int.natCast_mul, natAbs_sq, Int.toNat_of_nonneg hd]
  have e : (f * f * d).toNat = f.natAbs * f.natAbs * d.toNat := by omega
  rw [times_def]; unfold rooted
  have hs : square (f.natAbs * f.natAbs * d.toNat) = true := by
    unfold square
    rw [beq_iff_eq]
    have : ((root (f.natAbs * f.natAbs * d.toNat) * root (f.natAbs * f.natAbs * d.toNat) : Nat) : Int) = ((f.natAbs * f.natAbs * d.toNat : Nat) : Int) := by
      rw [Int.natCast_mul, e0]
      rw [wroot_def] at hq
      rw [e] at hq
      exact hq
    omega
  simp only [if_neg (show ¬ (0 : Int) ≤ f by omega), if_pos hs]
  rw [wroot_def]
  rw [e]
theorem times_neg' {f d : Int} (hd : 0 ≤ d) (hf : ¬ f ≥ 0) (hq : ¬ wroot (f * f * d) * wroot (f * f * d) = f * f * d) : -wroot (f * f * d) - 1 = times f d := by
  have e0 : ((f.natAbs * f.natAbs * d.toNat : Nat) : Int) = f * f * d := by
    rw [Int.natCast_mul, natAbs_sq, Int.toNat_of_nonneg hd]
  have e : (f * f * d).toNat = f.natAbs * f.natAbs * d.toNat := by omega
  rw [times_def]; unfold rooted
  have hs : ¬ square (f.natAbs * f.natAbs * d.toNat) = true := by
    unfold square
    rw [beq_iff_eq]
    intro h
    apply hq
    rw [wroot_def]
    rw [e, ← e0, ← Int.natCast_mul, h]
  simp only [if_neg (show ¬ (0 : Int) ≤ f by omega), if_neg hs]
  rw [wroot_def]
  rw [e]
theorem hgt_eq (a b c d n : Int) : hgt a b c d n = (n * a + times (n * b) d).fdiv c := by
  rw [hgt_def, times_def]; unfold Line.at_
  simp only [Int.mul_comm]
theorem height_due {a b c d n : Int} (h : 0 ≤ n) : PyRb26.height a b c d n = [hgt a b c d n] := by
  show [(⟨a, b, c, d.toNat⟩ : Line).at_ ((n.toNat : Nat) : Int)] = [hgt a b c d n]
  rw [Int.toNat_of_nonneg h, hgt_def]
theorem sum_due {a b c d n : Int} : PyRb26.sum_of a b c d n = [((List.range n.toNat).map fun (i : Nat) => hgt a b c d (i : Int)).sum] := by
  simp only [hgt_def]; rfl
end LsM
namespace LsM
open PySem PySem.W PySem.Calls PyProof.Rows
theorem mul_in {x y p q : Int} (hp : 0 ≤ p) (hq : 0 ≤ q) (x0 : -p ≤ x) (x1 : x ≤ p) (y0 : -q ≤ y) (y1 : y ≤ q) : -(p * q) ≤ x * y ∧ x * y ≤ p * q := by
  have hx : x.natAbs ≤ p.natAbs := by omega
  have hy : y.natAbs ≤ q.natAbs := by omega
  have h := Nat.mul_le_mul hx hy
  rw [← Int.natAbs_mul, ← Int.natAbs_mul] at h
  have := Int.mul_nonneg hp hq
  omega
theorem mul_self_nonneg (x : Int) : 0 ≤ x * x := by
  rcases Int.le_total 0 x with h | h
  · exact Int.mul_nonneg h h
  · exact Int.mul_nonneg_of_nonpos_of_nonpos h h
theorem bits90 {k : Int} (h1 : -1000000000000000000000000000 ≤ k) (h2 : k ≤ 1000000000000000000000000000) : Builtin.Int.intBits k ≤ 2 ^ 20 := by
  unfold Builtin.Int.intBits
  split
  · exact Nat.zero_le _
  · have hn : k.natAbs < 2 ^ 90 := by omega
    have : k.natAbs.log2 < 90 := by
      rcases Nat.eq_zero_or_pos k.natAbs with h0 | hp
      · rw [h0]; decide
      · exact (Nat.log2_lt (Nat.ne_of_gt hp)).mpr hn
    omega
theorem pylong90 {x y : Int} (h1 : -1000000000000000000000000000 ≤ y) (h2 : y ≤ 1000000000000000000000000000) : Builtin.divisionGoesByPylong x y = false := by
  refine PyProof.noPylong_of_log2 ?_
  rcases Nat.eq_zero_or_pos y.natAbs with h0 | hp
  · rw [h0]; decide +kernel
  · have : y.natAbs.log2 < 90 := (Nat.log2_lt (Nat.ne_of_gt hp)).mpr (by omega)
    omega
section
variable {prog : Program} {w : World} {A : Around} {E : Value → Shared → Prop} {s : Shared} {x y : Int} {t u : Tok} {Q : Value → Shared → Prop}
theorem step_div (hy : 0 < y) (hs : y ≤ 1000000000000000000000000000) (h : (y = 2 → 2 * x.fdiv y ≤ x ∧ x ≤ 2 * x.fdiv y + 1) → Q (.int (x.fdiv y) s.toks) { s with toks := s.toks + 1 }) :
    wpAny (model prog w) A (binaryOp .FloorDiv (.int x t) (.int y u)) Q E s :=
  PyProof.Rows.floordiv_int (by omega) (h (fun e => by subst e; rw [Int.fdiv_eq_ediv_of_nonneg _ (by decide)]; omega)) (Or.inl (pylong90 (by omega) hs))
theorem step_mul (x0 : -1000000000000000000000000000 ≤ x) (x1 : x ≤ 1000000000000000000000000000) (y0 : -1000000000000000000000000000 ≤ y) (y1 : y ≤ 1000000000000000000000000000)
    (h : (-10000000 ≤ x → x ≤ 10000000 → -1000 ≤ y → y ≤ 1000 → -10000000000 ≤ x * y ∧ x * y ≤ 10000000000) → (x = y → -10000000000 ≤ x → x ≤ 10000000000 → 0 ≤ x * y ∧ x * y ≤ 100000000000000000000) →
      (0 ≤ x → x ≤ 100000000000000000000 → 0 ≤ y → y ≤ 1000 → 0 ≤ x * y ∧ x * y ≤ 100000000000000000000000) → Q (.int (x * y) s.toks) { s with toks := s.toks + 1 }) :
    wpAny (model prog w) A (binaryOp .Mult (.int x t) (.int y u)) Q E s :=
  PyProof.Rows.mul_int (h (fun a b c d => mul_in (p := 10000000) (q := 1000) (by decide) (by decide) a b c d)
    (fun e a b => by subst e; exact ⟨mul_self_nonneg x, (mul_in (p := 10000000000) (q := 10000000000) (by decide) (by decide) a b a b).2⟩)
    (fun a b c d => ⟨Int.mul_nonneg a c, (mul_in (p := 100000000000000000000) (q := 1000) (by decide) (by decide) (by omega) b (by omega) d).2⟩)) (PySem.IntMulOk.of_bits (bits90 x0 x1) (bits90 y0 y1))
end
theorem pre_dec {r : OpenSpec} {as : List WData} (h : r.pre as = true) : (Codec.decAll r.args as).isSome = true := by
  unfold OpenSpec.pre at h
  cases h1 : Codec.decAll r.args as with
  | none => rw [h1] at h; cases h
  | some a => rfl
theorem dec_cons {c : Codec} {cs : List Codec} {d : WData} {ds : List WData} (h : (Codec.decAll (c :: cs) (d :: ds)).isSome = true) :
    (Codec.decAll [c] [d]).isSome = true ∧ (Codec.decAll cs ds).isSome = true := by
  have e : Codec.decAll (c :: cs) (d :: ds) = Codec.both Prod.mk (c.dec d) (Codec.decAll cs ds) := rfl
  have e1 : Codec.decAll [c] [d] = Codec.both Prod.mk (c.dec d) (some ()) := rfl
  rw [e] at h
  rw [e1]
  cases h1 : c.dec d with
  | none =>
    rw [h1] at h
    cases h
  | some a =>
    cases h2 : Codec.decAll cs ds with
    | none =>
      rw [h1, h2] at h
      cases h
    | some r => exact ⟨rfl, rfl⟩
theorem dec_join {c : Codec} {cs : List Codec} {d : WData} {ds : List WData} {a : c.denote} {r : Codec.denoteAll cs} (h1 : Codec.decAll [c] [d] = some (a, ())) (h2 : Codec.decAll cs ds = some r) :
    Codec.decAll (c :: cs) (d :: ds) = some (a, r) := by
  have e : Codec.decAll (c :: cs) (d :: ds) = Codec.both Prod.mk (c.dec d) (Codec.decAll cs ds) := rfl
  have e1 : Codec.decAll [c] [d] = Codec.both Prod.mk (c.dec d) (some ()) := rfl
  rw [e1] at h1
  rw [e, h2]
  cases h3 : c.dec d with
  | none =>
    rw [h3] at h1
    cases h1
  | some b =>
    rw [h3] at h1
    cases h1
    rfl
theorem dec_int {lo hi k : Int} (h : (Codec.decAll [.int lo hi] [WData.int k]).isSome = true) : Codec.decAll [.int lo hi] [WData.int k] = some (k, ()) ∧ lo ≤ k ∧ k ≤ hi := by
  have e : Codec.decAll [.int lo hi] [WData.int k] = Codec.both Prod.mk (if Codec.inInt lo hi k = true then some k else none) (some ()) := rfl
  rw [e] at h ⊢
  cases h1 : Codec.inInt lo hi k with
  | false =>
    rw [h1] at h
    cases h
  | true =>
    unfold Codec.inInt at h1
    simp only [Bool.and_eq_true, decide_eq_true_eq] at h1
    exact ⟨rfl, h1.1, h1.2⟩
/-- five whole numbers handed in -/
theorem dec5 {l1 u1 l2 u2 l3 u3 l4 u4 l5 u5 a b c d n : Int} (h : (Codec.decAll [.int l1 u1, .int l2 u2, .int l3 u3, .int l4 u4, .int l5 u5] [.int a, .int b, .int c, .int d, .int n]).isSome = true) :
    Codec.decAll [.int l1 u1, .int l2 u2, .int l3 u3, .int l4 u4, .int l5 u5] [.int a, .int b, .int c, .int d, .int n] = some (a, b, c, d, n, ()) ∧ (l1 ≤ a ∧ a ≤ u1) ∧ (l2 ≤ b ∧ b ≤ u2) ∧ (l3 ≤ c ∧ c ≤ u3) ∧ (l4 ≤ d ∧ d ≤ u4) ∧ (l5 ≤ n ∧ n ≤ u5) := by
  obtain ⟨h1, h⟩ := dec_cons h
  obtain ⟨h2, h⟩ := dec_cons h
  obtain ⟨h3, h⟩ := dec_cons h
  obtain ⟨h4, h5⟩ := dec_cons h
  obtain ⟨e1, b1⟩ := dec_int h1
  obtain ⟨e2, b2⟩ := dec_int h2
  obtain ⟨e3, b3⟩ := dec_int h3
  obtain ⟨e4, b4⟩ := dec_int h4
  obtain ⟨e5, b5⟩ := dec_int h5
  exact ⟨dec_join e1 (dec_join e2 (dec_join e3 (dec_join e4 e5))), b1, b2, b3, b4, b5⟩
theorem foldl_sum (g : Int → Int) : ∀ (l : List Nat) (acc : Int), (l.map fun (i : Nat) => (0 : Int) + (i : Int)).foldl (fun a k => a + g k) acc = acc + (l.map fun (i : Nat) => g (i : Int)).sum
  | [], acc => by simp
  | x :: r, acc => by
    rw [List.map_cons, List.foldl_cons, foldl_sum g r, List.map_cons, List.sum_cons, Int.zero_add]
    omega
theorem fold_range (g : Int → Int) (n : Int) : (rangeKs 0 (n - 0).toNat).foldl (fun a k => a + g k) 0 = ((List.range n.toNat).map fun (i : Nat) => g (i : Int)).sum := by
  unfold rangeKs
  rw [foldl_sum, Int.zero_add, Int.sub_zero]
/-! the loop of whole_root -/
theorem wr_start {sq : Int} (h0 : 0 ≤ sq) (h1 : ¬ sq = 0) : 0 < sq ∧ sq ≤ sq ∧ 0 < (sq + sq.fdiv sq).fdiv 2 ∧ sq < (sq + 1) * (sq + 1) ∧ (sq + sq.fdiv sq).fdiv 2 = guess sq sq := by
  have : sq * 1 ≤ sq * sq := Int.mul_le_mul_of_nonneg_left (by omega) h0
  refine ⟨by omega, by omega, guess_pos (by omega) (by omega), ?_, rfl⟩
  have e : (sq + 1) * (sq + 1) = sq * sq + 2 * sq + 1 := by grind
  omega
theorem wr_turn {sq r l : Int} (e : l = guess sq r) (hr : 0 < r) (hs : r ≤ sq) (h : l < r) : 0 < l ∧ l ≤ sq ∧ 0 < (l + sq.fdiv l).fdiv 2 ∧ sq < (l + 1) * (l + 1) ∧ (l + sq.fdiv l).fdiv 2 = guess sq l := by
  subst e
  have hl := guess_pos (s := sq) (by omega) hr
  exact ⟨hl, by omega, guess_pos (by omega) hl, (guess_above (by omega) hr).2, rfl⟩
theorem wr_less {r l : Int} (hr : 0 < r) (h : l < r) : l.toNat < r.toNat := by
  omega
theorem wr_out {sq r l : Int} (e : l = guess sq r) (hr : 0 < r) (hb : sq < (r + 1) * (r + 1)) (h : ¬ l < r) : r = wroot sq := by
  subst e
  exact wroot_unique (by omega) (guess_end hr h) hb
theorem wr_zero {sq : Int} (h : sq = 0) : 0 = wroot sq := by
  subst h
  exact wroot_unique (by decide) (by decide) (by decide)
theorem wr_fact (s : Int) : 0 ≤ s ∧ s ≤ 1000000000000000000000000 → 0 ≤ wroot s ∧ wroot s ≤ 1000000000000 := by
  intro ⟨h0, h1⟩
  obtain ⟨g0, g1, g2⟩ := wroot_ok h0
  refine ⟨g0, ?_⟩
  apply Int.le_of_not_gt
  intro h
  have h2 : 1000000000001 ≤ wroot s := h
  have := Int.mul_le_mul h2 h2 (by decide) g0
  omega
/-- six whole numbers handed in -/
theorem dec6 {l0 u0 l1 u1 l2 u2 l3 u3 l4 u4 l5 u5 z a b c d n : Int} (h : (Codec.decAll [.int l0 u0, .int l1 u1, .int l2 u2, .int l3 u3, .int l4 u4, .int l5 u5] [.int z, .int a, .int b, .int c, .int d, .int n]).isSome = true) :
    Codec.decAll [.int l0 u0, .int l1 u1, .int l2 u2, .int l3 u3, .int l4 u4, .int l5 u5] [.int z, .int a, .int b, .int c, .int d, .int n] = some (z, a, b, c, d, n, ()) ∧ (l0 ≤ z ∧ z ≤ u0) ∧ (l1 ≤ a ∧ a ≤ u1) ∧ (l2 ≤ b ∧ b ≤ u2) ∧ (l3 ≤ c ∧ c ≤ u3) ∧ (l4 ≤ d ∧ d ≤ u4) ∧ (l5 ≤ n ∧ n ≤ u5) := by
  obtain ⟨h1, h⟩ := dec_cons h
  obtain ⟨e1, b1⟩ := dec_int h1
  obtain ⟨e2, b2⟩ := dec5 h
  exact ⟨dec_join e1 e2, b1, b2⟩
/-! the steps -/
noncomputable def stepsL : Int → Int → Int → Int → Int → Nat → List Int := (boxed fun (a b c d n : Int) (k : Nat) => (List.range k).map fun (i : Nat) => hgt a b c d (n + (i : Int) + 1) - hgt a b c d (n + (i : Int))).1
theorem stepsL_def (a b c d n : Int) (k : Nat) : stepsL a b c d n k = (List.range k).map fun (i : Nat) => hgt a b c d (n + (i : Int) + 1) - hgt a b c d (n + (i : Int)) :=by
  have h : stepsL = fun (a b c d n : Int) (k : Nat) => (List.range k).map fun (i : Nat) => hgt a b c d (n + (i : Int) + 1) - hgt a b c d (n + (i : Int)) := (boxed _).2
  rw [h]
theorem stepsL_zero (a b c d n : Int) : stepsL a b c d n 0 = [] := by rw [stepsL_def]; rfl
theorem stepsL_succ (a b c d n : Int) (k : Nat) : stepsL a b c d n (k + 1) = stepsL a b c d n k ++ [hgt a b c d (n + (k : Int) + 1) - hgt a b c d (n + (k : Int))] := by
  rw [stepsL_def, stepsL_def, List.range_succ, List.map_append]
  rfl
theorem stepsL_length (a b c d n : Int) (k : Nat) : (stepsL a b c d n k).length = k := by
  rw [stepsL_def]
  simp
theorem steps_due {a b c d n k : Int} (hn : 0 ≤ n) : PyRb26.steps a b c d n k = 0 :: stepsL a b c d n k.toNat := by
  show (0 : Int) :: (List.range k.toNat).map (fun (i : Nat) => (⟨a, b, c, d.toNat⟩ : Rb26.Line).step (n.toNat + i)) = _
  rw [stepsL_def]
  refine congrArg _ (List.map_congr_left ?_)
  intro i _
  unfold Rb26.Line.step
  simp only [hgt_def]
  have e : ((n.toNat + i : Nat) : Int) = n + (i : Int) := by omega
  rw [e]
theorem pre_asked {r : OpenSpec} {as : List WData} {a : Codec.denoteAll r.args} (h : r.pre as = true) (e : Codec.decAll r.args as = some a) : Codec.app r.args r.asked a = true := by
  unfold OpenSpec.pre at h
  rw [e] at h
  exact h
end LsM
namespace LsM
open Rb26
/-! ### counting what is different -/
theorem nodup_eraseDups' {α : Type} [BEq α] [LawfulBEq α] : ∀ (n : Nat) (l : List α), l.length ≤ n → l.eraseDups.Nodup
  | _, [], _ => by simp
  | 0, _ :: _, h => by simp at h
  | n + 1, a :: as, h => by
    rw [List.eraseDups_cons, List.nodup_cons]
    refine ⟨?_, nodup_eraseDups' n _ ?_⟩
    · rw [List.mem_eraseDups, List.mem_filter]
      simp
    · have := List.length_filter_le (fun b => !b == a) as
      simp only [List.length_cons] at h
      omega
theorem eraseDups_count {α : Type} [BEq α] [LawfulBEq α] {l m : List α} (hm : m.Nodup) (h : ∀ x, x ∈ l ↔ x ∈ m) : l.eraseDups.length = m.length := by
  have hl := nodup_eraseDups' l.length l (Nat.le_refl _)
  apply Nat.le_antisymm
  · exact hl.length_le_of_subset (fun x hx => (h x).mp (List.mem_eraseDups.mp hx))
  · exact hm.length_le_of_subset (fun x hx => List.mem_eraseDups.mpr ((h x).mpr hx))
/-! ### rows of a fraction p / c -/
section
variable (p c : Int)
/-- how much a row from residue r has risen after i steps -/
def ris (r : Int) (i : Nat) : Int := (r + (i : Int) * p) / c
/-- the row from residue r -/
def rowAt (r : Int) (k : Nat) : List Int := (List.range k).map fun i => ris p c r (i + 1) - ris p c r i
theorem ris_zero {r : Int} (h0 : 0 ≤ r) (h1 : r < c) : ris p c r 0 = 0 := by
  unfold ris
  rw [Int.natCast_zero, Int.zero_mul, Int.add_zero]
  exact Int.ediv_eq_zero_of_lt h0 h1
theorem rowAt_eq {r t : Int} {k : Nat} (r0 : 0 ≤ r) (r1 : r < c) (t0 : 0 ≤ t) (t1 : t < c) : rowAt p c r k = rowAt p c t k ↔ ∀ i : Nat, i ≤ k → ris p c r i = ris p c t i := by
  constructor
  · intro h i
    induction i with
    | zero => intro _; rw [ris_zero p c r0 r1, ris_zero p c t0 t1]
    | succ i ih =>
      intro hi
      have e : (rowAt p c r k)[i]? = (rowAt p c t k)[i]? := by rw [h]
      unfold rowAt at e
      rw [List.getElem?_map, List.getElem?_map, List.getElem?_range (by omega)] at e
      simp only [Option.map_some, Option.some.injEq] at e
      have := ih (by omega)
      omega
  · intro h
    unfold rowAt
    refine List.map_congr_left ?_
    intro i hi
    rw [List.mem_range] at hi
    rw [h (i + 1) (by omega), h i (by omega)]
/-- where the i-th cut is -/
def cut (i : Nat) : Int := (-((i : Int) * p)) % c
theorem cut_in (hc : 0 < c) (i : Nat) : 0 ≤ cut p c i ∧ cut p c i < c :=
  ⟨Int.emod_nonneg _ (Int.ne_of_gt hc), Int.emod_lt_of_pos _ hc⟩
theorem cut_zero : cut p c 0 = 0 := by
  unfold cut
  simp
theorem cut_mult (i : Nat) : ∃ M : Int, cut p c i + (i : Int) * p = c * M := by
  refine ⟨-((-((i : Int) * p)) / c), ?_⟩
  unfold cut
  have := Int.mul_ediv_add_emod (-((i : Int) * p)) c
  rw [Int.mul_neg]
  omega
/-- no cut between: the same rise -/
theorem ris_same (hc : 0 < c) {r t : Int} {i : Nat} (t0 : 0 ≤ t) (tr : t ≤ r) (r1 : r < c) (h : cut p c i ≤ t ∨ r < cut p c i) : ris p c r i = ris p c t i := by
  obtain ⟨M, hM⟩ := cut_mult p c i
  obtain ⟨c0, c1⟩ := cut_in p c hc i
  unfold ris
  generalize cut p c i = z at *
  have e1 : r + (i : Int) * p = (r - z) + c * M := by omega
  have e2 : t + (i : Int) * p = (t - z) + c * M := by omega
  rw [e1, e2, Int.add_mul_ediv_left _ _ (Int.ne_of_gt hc), Int.add_mul_ediv_left _ _ (Int.ne_of_gt hc)]
  congr 1
  rcases h with h | h
  · rw [Int.ediv_eq_zero_of_lt (by omega) (by omega), Int.ediv_eq_zero_of_lt (by omega) (by omega)]
  · have f : ∀ x : Int, -c ≤ x → x < 0 → x / c = -1 := by
      intro x h1 h2
      have e : x = (x + c) + c * (-1) := by rw [Int.mul_neg, Int.mul_one]; omega
      rw [e, Int.add_mul_ediv_left _ _ (Int.ne_of_gt hc), Int.ediv_eq_zero_of_lt (by omega) (by omega)]
      rfl
    rw [f _ (by omega) (by omega), f _ (by omega) (by omega)]
/-- a cut between: another rise -/
theorem ris_other (hc : 0 < c) {t : Int} {i : Nat} (t0 : 0 ≤ t) (h : t < cut p c i) : ris p c (cut p c i) i ≠ ris p c t i := by
  obtain ⟨M, hM⟩ := cut_mult p c i
  obtain ⟨c0, c1⟩ := cut_in p c hc i
  unfold ris
  rw [hM]
  generalize cut p c i = z at *
  have e2 : t + (i : Int) * p = (t - z + c) + c * (M - 1) := by rw [Int.mul_sub, Int.mul_one]; omega
  rw [e2, Int.add_mul_ediv_left _ _ (Int.ne_of_gt hc), Int.mul_ediv_cancel_left _ (Int.ne_of_gt hc), Int.ediv_eq_zero_of_lt (by omega) (by omega)]
  omega
/-- the last cut at or ahead of r -/
theorem last_cut (hc : 0 < c) {r : Int} (r0 : 0 ≤ r) : ∀ k : Nat, ∃ j : Nat, j ≤ k ∧ cut p c j ≤ r ∧ ∀ i : Nat, i ≤ k → cut p c i ≤ cut p c j ∨ r < cut p c i
  | 0 => ⟨0, Nat.le_refl _, by rw [cut_zero]; exact r0, fun i hi => by have : i = 0 := by omega
                                                                       subst this; left; exact Int.le_refl _⟩
  | k + 1 => by
    obtain ⟨j, h1, h2, h3⟩ := last_cut hc r0 k
    by_cases g : cut p c j < cut p c (k + 1) ∧ cut p c (k + 1) ≤ r
    · refine ⟨k + 1, Nat.le_refl _, g.2, fun i hi => ?_⟩
      rcases (by omega : i = k + 1 ∨ i ≤ k) with e | e
      · subst e; left; exact Int.le_refl _
      · rcases h3 i e with h | h
        · left; omega
        · right; exact h
    · refine ⟨j, by omega, h2, fun i hi => ?_⟩
      rcases (by omega : i = k + 1 ∨ i ≤ k) with e | e
      · subst e; omega
      · exact h3 i e
theorem row_is_cut (hc : 0 < c) {r : Int} (r0 : 0 ≤ r) (r1 : r < c) (k : Nat) : ∃ j : Nat, j ≤ k ∧ rowAt p c r k = rowAt p c (cut p c j) k := by
  obtain ⟨j, h1, h2, h3⟩ := last_cut p c hc r0 k
  obtain ⟨c0, c1⟩ := cut_in p c hc j
  refine ⟨j, h1, (rowAt_eq p c r0 r1 c0 c1).mpr ?_⟩
  intro i hi
  exact ris_same p c hc c0 h2 r1 (h3 i hi)
theorem cut_rows_ne (hc : 0 < c) {i j k : Nat} (hi : i ≤ k) (hj : j ≤ k) (h : cut p c i ≠ cut p c j) : rowAt p c (cut p c i) k ≠ rowAt p c (cut p c j) k := by
  obtain ⟨i0, i1⟩ := cut_in p c hc i
  obtain ⟨j0, j1⟩ := cut_in p c hc j
  intro e
  rcases (by omega : cut p c i < cut p c j ∨ cut p c j < cut p c i) with g | g
  · exact ris_other p c hc i0 g (((rowAt_eq p c i0 i1 j0 j1).mp e j hj).symm)
  · exact ris_other p c hc j0 g ((rowAt_eq p c i0 i1 j0 j1).mp e i hi)
end
theorem cut_eq_iff {p c : Int} {i j : Nat} : cut p c i = cut p c j ↔ c ∣ ((i : Int) - (j : Int)) * p := by
  unfold cut
  rw [Int.emod_eq_emod_iff_emod_sub_eq_zero, ← Int.dvd_iff_emod_eq_zero]
  have e : -((i : Int) * p) - -((j : Int) * p) = -(((i : Int) - (j : Int)) * p) := by grind
  rw [e, Int.dvd_neg]
/-- by the lower number -/
theorem dvd_lower {p c z : Int} (hc : 0 < c) : c ∣ z * p ↔ c / (Int.gcd p c : Int) ∣ z := by
  have hg : (0 : Int) < (Int.gcd p c : Int) := by
    have : 0 < Int.gcd p c := Int.gcd_pos_of_ne_zero_right p (Int.ne_of_gt hc)
    omega
  have hgc : ((Int.gcd p c : Nat) : Int) ∣ c := Int.gcd_dvd_right ..
  have hgp : ((Int.gcd p c : Nat) : Int) ∣ p := Int.gcd_dvd_left ..
  obtain ⟨q, hq⟩ := hgc
  obtain ⟨p', hp'⟩ := hgp
  have e : c / ((Int.gcd p c : Nat) : Int) = q := Int.ediv_eq_of_eq_mul_right (Int.ne_of_gt hg) hq
  rw [e]
  have hco : Int.gcd p' q = 1 := by
    have := Int.gcd_mul_left ((Int.gcd p c : Nat) : Int) p' q
    rw [← hp', ← hq, Int.natAbs_natCast] at this
    have h2 : Int.gcd p c * 1 = Int.gcd p c * Int.gcd p' q := by rw [Nat.mul_one]; exact this
    have := Nat.eq_of_mul_eq_mul_left (by omega) h2
    exact this.symm
  constructor
  · intro ⟨w, hw⟩
    have h1 : z * p' = q * w := by
      have : ((Int.gcd p c : Nat) : Int) * (z * p') = ((Int.gcd p c : Nat) : Int) * (q * w) := by
        rw [← Int.mul_assoc, ← Int.mul_assoc, ← hq, ← hw, Int.mul_comm _ z, Int.mul_assoc, ← hp']
      exact Int.eq_of_mul_eq_mul_left (Int.ne_of_gt hg) this
    have : q ∣ z * p' := ⟨w, h1⟩
    rw [Int.gcd_comm] at hco
    have h2 := Int.natAbs_dvd_natAbs.mpr this
    rw [Int.natAbs_mul] at h2
    exact Int.natAbs_dvd_natAbs.mp (Nat.Coprime.dvd_of_dvd_mul_right hco h2)
  · intro ⟨w, hw⟩
    refine ⟨w * p', ?_⟩
    rw [hw, hq]
    conv => lhs; rw [hp']
    grind
theorem rows_count {p c : Int} (hc : 0 < c) (k : Nat) :
    ((List.range c.toNat).map fun n : Nat => rowAt p c (((n : Int) * p) % c) k).eraseDups.length = min (k + 1) (c / (Int.gcd p c : Int)).toNat := by
  have hg : (0 : Int) < (Int.gcd p c : Int) := by
    have : 0 < Int.gcd p c := Int.gcd_pos_of_ne_zero_right p (Int.ne_of_gt hc)
    omega
  have hq : 0 < c / (Int.gcd p c : Int) := by
    have hle : ((Int.gcd p c : Nat) : Int) ≤ c := Int.le_of_dvd hc (Int.gcd_dvd_right ..)
    exact Int.ediv_pos_of_pos_of_dvd hc (Int.le_of_lt hg) (Int.gcd_dvd_right ..)
  have key : ∀ i j : Nat, cut p c i = cut p c j ↔ c / (Int.gcd p c : Int) ∣ ((i : Int) - (j : Int)) := fun i j => by rw [cut_eq_iff, dvd_lower hc]
  generalize c / (Int.gcd p c : Int) = q at *
  have cnt := eraseDups_count (l := (List.range c.toNat).map fun n : Nat => rowAt p c (((n : Int) * p) % c) k) (m := (List.range (min (k + 1) q.toNat)).map fun j => rowAt p c (cut p c j) k) ?_ ?_
  · rw [cnt, List.length_map, List.length_range]
  · rw [List.nodup_iff_pairwise_ne, List.pairwise_map]
    refine List.Pairwise.imp_of_mem ?_ (List.nodup_iff_pairwise_ne.mp List.nodup_range)
    intro i j hi hj hne
    rw [List.mem_range] at hi hj
    refine cut_rows_ne p c hc (by omega) (by omega) ?_
    intro e
    obtain ⟨w, hw⟩ := (key i j).mp e
    have hw0 : w = 0 := by
      rcases (by omega : w = 0 ∨ 1 ≤ w ∨ w ≤ -1) with h | h | h
      · exact h
      · have := Int.mul_le_mul_of_nonneg_left h (Int.le_of_lt hq)
        omega
      · have := Int.mul_le_mul_of_nonneg_left h (Int.le_of_lt hq)
        omega
    subst hw0
    omega
  · intro x
    rw [List.mem_map, List.mem_map]
    constructor
    · rintro ⟨n, hn, rfl⟩
      obtain ⟨j, hj, e⟩ := row_is_cut p c hc (Int.emod_nonneg ((n : Int) * p) (Int.ne_of_gt hc)) (Int.emod_lt_of_pos _ hc) k
      refine ⟨j % q.toNat, ?_, ?_⟩
      · rw [List.mem_range]
        have h1 : j % q.toNat < q.toNat := Nat.mod_lt _ (by omega)
        have h2 := Nat.mod_le j q.toNat
        omega
      · rw [e]
        have : cut p c (j % q.toNat) = cut p c j := by
          rw [key]
          refine ⟨-((j / q.toNat : Nat) : Int), ?_⟩
          have := Nat.div_add_mod j q.toNat
          have e2 : ((q.toNat : Nat) : Int) = q := by omega
          have : ((q.toNat * (j / q.toNat) + j % q.toNat : Nat) : Int) = (j : Int) := by rw [this]
          rw [Int.natCast_add, Int.natCast_mul, e2] at this
          rw [Int.mul_neg]
          omega
        rw [this]
    · rintro ⟨j, hj, rfl⟩
      refine ⟨((-(j : Int)) % c).toNat, ?_, ?_⟩
      · rw [List.mem_range]
        have h1 := Int.emod_nonneg (-(j : Int)) (Int.ne_of_gt hc)
        have h2 := Int.emod_lt_of_pos (-(j : Int)) hc
        omega
      · have h1 := Int.emod_nonneg (-(j : Int)) (Int.ne_of_gt hc)
        rw [Int.toNat_of_nonneg h1]
        unfold cut
        have e : (-(j : Int)) % c * p % c = -((j : Int) * p) % c := by
          rw [Int.mul_emod, Int.emod_emod, ← Int.mul_emod, Int.neg_mul]
        rw [e]
end LsM
namespace LsM
open Rb26
theorem first_some {p : Nat → Bool} : ∀ {k n r : Nat}, first p k n = some r → n ≤ r ∧ r < n + k ∧ p r = true ∧ ∀ i, n ≤ i → i < r → p i = false
  | 0, _, _, h => by simp [first] at h
  | k + 1, n, r, h => by
    unfold first at h
    by_cases hp : p n = true
    · rw [if_pos hp] at h
      cases h
      exact ⟨Nat.le_refl _, by omega, hp, fun i h1 h2 => by omega⟩
    · rw [if_neg hp] at h
      obtain ⟨g1, g2, g3, g4⟩ := first_some h
      refine ⟨by omega, by omega, g3, fun i h1 h2 => ?_⟩
      rcases (by omega : i = n ∨ n + 1 ≤ i) with e | e
      · subst e; simpa using hp
      · exact g4 i e h2
theorem first_intro {p : Nat → Bool} : ∀ {k n r : Nat}, n ≤ r → r < n + k → p r = true → (∀ i, n ≤ i → i < r → p i = false) → first p k n = some r
  | 0, _, _, _, h, _, _ => by omega
  | k + 1, n, r, h1, h2, h3, h4 => by
    unfold first
    rcases (by omega : n = r ∨ n + 1 ≤ r) with e | e
    · subst e; rw [if_pos h3]
    · rw [if_neg (by rw [h4 n (Nat.le_refl _) (by omega)]; decide)]
      exact first_intro e (by omega) h3 (fun i a b => h4 i (by omega) b)
theorem near_some {o : Option Nat} (h : Rb26Neutral.near o = true) : ∃ r, o = some r := by
  cases o with
  | none => cases h
  | some r => exact ⟨r, rfl⟩
/-- the halving's word -/
structure Between (a b c d m way low high : Int) : Prop where
  lo : low = 1 ∨ way * (hgt a b c d (low - 1) - m) < 0
  hi : high = 1000001 ∨ 0 ≤ way * (hgt a b c d high - m)
theorem bt_start {a b c d m way : Int} : (1 : Int) ≤ 1 ∧ (1 : Int) ≤ 1000000 + 1 ∧ (1000000 + 1 : Int) ≤ 1000001 ∧ Between a b c d m way 1 (1000000 + 1) :=
  ⟨by decide, by decide, by decide, ⟨Or.inl rfl, Or.inl rfl⟩⟩
theorem bt_high {a b c d m way low high mid : Int} (h : Between a b c d m way low high) (h3 : way * (hgt a b c d mid - m) ≥ 0) (h1 : 1 ≤ low) (h2 : low ≤ mid) (h4 : mid ≤ 1000001) : 1 ≤ low ∧ low ≤ mid ∧ mid ≤ 1000001 ∧ Between a b c d m way low mid :=
  ⟨h1, h2, h4, ⟨h.lo, Or.inr h3⟩⟩
theorem bt_low {a b c d m way low high mid : Int} (h : Between a b c d m way low high) (h3 : ¬ way * (hgt a b c d mid - m) ≥ 0) (h1 : 1 ≤ mid) (h2 : mid < high) (h4 : high ≤ 1000001) : 1 ≤ mid + 1 ∧ mid + 1 ≤ high ∧ high ≤ 1000001 ∧ Between a b c d m way (mid + 1) high :=
  ⟨by omega, by omega, h4, ⟨Or.inr (by rw [Int.add_sub_cancel]; omega), h.hi⟩⟩
theorem slope_of {a b c d : Int} (h : Rb26Neutral.slope a b c d = true) : 1 ≤ c := by
  unfold Rb26Neutral.slope Rb26Neutral.within at h
  simp only [Bool.and_eq_true, decide_eq_true_eq] at h
  omega
theorem reach_asked_of {a b c d m : Int} (h : PyRb26.reach_asked a b c d m = true) : 1 ≤ c ∧ ∃ r : Nat, r < 3000 ∧ m ≤ hgt a b c d (r : Int) := by
  have h1 : ((Rb26Neutral.slope a b c d && (Rb26Neutral.whole64 m && Rb26Neutral.near (first (fun n => decide (m ≤ (⟨a, b, c, d.toNat⟩ : Line).at_ (n : Int))) 3000 0))) && true && (decide (1 ≤ 1) && decide (1 ≤ 60))) = true := h
  simp only [Bool.and_eq_true] at h1
  obtain ⟨⟨⟨hs, _, hn⟩, _⟩, _⟩ := h1
  obtain ⟨r, hr⟩ := near_some hn
  obtain ⟨_, g2, g3, _⟩ := first_some hr
  refine ⟨slope_of hs, r, by omega, ?_⟩
  rw [hgt_def]
  simpa using g3
theorem reach_due (a b c d m : Int) : PyRb26.reach a b c d m = [orElse (first (fun n => decide (m ≤ (⟨a, b, c, d.toNat⟩ : Line).at_ (n : Int))) 1000001 0) (-1)] := rfl
theorem reach_zero {a b c d m : Int} (h : m ≤ 0) : [0] = PyRb26.reach a b c d m := by
  rw [reach_due, first_intro (r := 0) (by omega) (by omega) (by rw [Int.natCast_zero, at_zero]; simpa using h) (fun i a b => by omega)]
  rfl
theorem hgt_up {a b c d m : Int} (hc : 1 ≤ c) (hm : ¬ m ≤ 0) {r : Nat} (hr : m ≤ hgt a b c d (r : Int)) {x y : Int} (h : x ≤ y) : hgt a b c d x ≤ hgt a b c d y := by
  simp only [hgt_def] at *
  exact at_mono_up (L := ⟨a, b, c, d.toNat⟩) (by show 0 < c; omega) (rises (L := ⟨a, b, c, d.toNat⟩) (by show 0 < c; omega) (n := (r : Int)) (by omega) (by omega)) h
theorem reach_end {a b c d m low high : Int} (ha : PyRb26.reach_asked a b c d m = true) (hw : Between a b c d m 1 low high) (hm : ¬ m ≤ 0) (h1 : 1 ≤ low) (h2 : low ≤ high) (h3 : ¬ low < high) (h4 : high ≤ 1000001) :
    low ≤ 3000 ∧ [low] = PyRb26.reach a b c d m := by
  obtain ⟨hc, r, hr, hh⟩ := reach_asked_of ha
  have e : low = high := by omega
  subst e
  obtain ⟨hlo, hhi⟩ := hw
  rw [Int.one_mul] at hlo hhi
  have mono := @hgt_up a b c d m hc hm r hh
  have r0 : r ≠ 0 := by
    intro h0
    subst h0
    rw [hgt_def, Int.natCast_zero, at_zero] at hh
    omega
  have lr : low ≤ (r : Int) := by
    rcases hlo with h | h
    · omega
    · apply Int.le_of_not_gt
      intro g
      have := mono (x := (r : Int)) (y := low - 1) (by omega)
      omega
  refine ⟨by omega, ?_⟩
  have hL : m ≤ hgt a b c d low := by
    rcases hhi with h | h
    · omega
    · omega
  rw [reach_due]
  have e2 : ((low.toNat : Nat) : Int) = low := by omega
  rw [first_intro (r := low.toNat) (by omega) (by omega) (by rw [e2, ← hgt_def]; simpa using hL) (fun i h5 h6 => ?_)]
  · show [low] = [((low.toNat : Nat) : Int)]
    rw [e2]
  · rw [← hgt_def]
    have : hgt a b c d (i : Int) < m := by
      rcases hlo with h | h
      · have i0 : i = 0 := by omega
        subst i0
        rw [hgt_def, Int.natCast_zero, at_zero]
        omega
      · have := mono (x := (i : Int)) (y := low - 1) (by omega)
        omega
    simpa using this
theorem hgt_fact (a b c d n : Int) : (-1000 ≤ a ∧ a ≤ 1000) ∧ (-1000 ≤ b ∧ b ≤ 1000) ∧ (1 ≤ c ∧ c ≤ 1000) ∧ (0 ≤ d ∧ d ≤ 1000) ∧ (0 ≤ n ∧ n ≤ 10000000) → -10000000000000 ≤ hgt a b c d n ∧ hgt a b c d n ≤ 10000000000000 := by
  intro ⟨ha, hb, hc, hd, hn⟩
  rw [hgt_eq]
  have h1 := mul_in (x := n) (y := a) (p := 10000000) (q := 1000) (by decide) (by decide) (by omega) (by omega) (by omega) (by omega)
  have h2 := mul_in (x := n) (y := b) (p := 10000000) (q := 1000) (by decide) (by decide) (by omega) (by omega) (by omega) (by omega)
  have ht : -2000000000000 ≤ times (n * b) d ∧ times (n * b) d ≤ 2000000000000 := by
    generalize n * b = f at *
    have h3 := mul_in (x := f) (y := f) (p := 10000000000) (q := 10000000000) (by decide) (by decide) (by omega) (by omega) (by omega) (by omega)
    have h4 := mul_in (x := f * f) (y := d) (p := 100000000000000000000) (q := 1000) (by decide) (by decide) (by omega) (by omega) (by omega) (by omega)
    have h5 := Int.mul_nonneg (mul_self_nonneg f) hd.1
    have h6 := wr_fact (f * f * d) ⟨h5, by omega⟩
    by_cases hf : f ≥ 0
    · rw [← times_nonneg hd.1 hf]; omega
    · by_cases hq : wroot (f * f * d) * wroot (f * f * d) = f * f * d
      · rw [← times_neg hd.1 hf hq]; omega
      · rw [← times_neg' hd.1 hf hq]; omega
  generalize times (n * b) d = t at *
  generalize n * a = s at *
  rw [Int.fdiv_eq_ediv_of_nonneg _ (by omega)]
  constructor
  · rw [Int.le_ediv_iff_mul_le (by omega)]
    have := Int.mul_le_mul_of_nonneg_left (show 1 ≤ c from hc.1) (show (0 : Int) ≤ 10000000000000 by decide)
    omega
  · apply Int.le_of_lt_add_one
    rw [Int.ediv_lt_iff_lt_mul (by omega)]
    have := Int.mul_le_mul_of_nonneg_left (show 1 ≤ c from hc.1) (show (0 : Int) ≤ 10000000000000 + 1 by decide)
    omega
end LsM
namespace LsM
open Rb26
/-! ### slopes that are fractions -/
theorem root_sq (r : Nat) : root (r * r) = r := (root_unique (Nat.le_refl _) (by
  have : (r + 1) * (r + 1) = r * r + 2 * r + 1 := by grind
  omega)).symm
theorem square_sq (r : Nat) : square (r * r) = true := (square_iff _).mpr ⟨r, rfl⟩
theorem rooted_sq (y : Int) (r : Nat) : rooted y (r * r) = y * (r : Int) := by
  have e : y.natAbs * y.natAbs * (r * r) = (y.natAbs * r) * (y.natAbs * r) := by grind
  unfold rooted
  simp only [e, root_sq, square_sq, if_true]
  rw [Int.natCast_mul]
  split
  · rw [Int.natAbs_of_nonneg (by assumption)]
  · have : ((y.natAbs : Nat) : Int) = -y := by omega
    rw [this, Int.neg_mul, Int.neg_neg]
noncomputable def isFrac : Int → Int → Bool := (boxed fun (b d : Int) => decide (wroot (b * b * d) * wroot (b * b * d) = b * b * d)).1
theorem isFrac_def (b d : Int) : isFrac b d = decide (wroot (b * b * d) * wroot (b * b * d) = b * b * d) := by
  have h : isFrac = fun (b d : Int) => decide (wroot (b * b * d) * wroot (b * b * d) = b * b * d) := (boxed _).2
  rw [h]
theorem isFrac_plain {a b c d : Int} (hd : 0 ≤ d) : isFrac b d = (⟨a, b, c, d.toNat⟩ : Line).plain := by
  have e0 : ((b.natAbs * b.natAbs * d.toNat : Nat) : Int) = b * b * d := by
    rw [Int.natCast_mul, natAbs_sq, Int.toNat_of_nonneg hd]
  have e : (b * b * d).toNat = b.natAbs * b.natAbs * d.toNat := by omega
  rw [isFrac_def]
  show decide _ = (b == 0 || square d.toNat)
  rw [Bool.eq_iff_iff, Bool.or_eq_true, decide_eq_true_iff, beq_iff_eq, square_iff, wroot_def, e, ← e0]
  constructor
  · intro h
    by_cases hb : b = 0
    · exact Or.inl hb
    · right
      refine sq_of_mul (y := b.natAbs) (x := root (b.natAbs * b.natAbs * d.toNat)) (by omega) ?_
      exact_mod_cast h
  · intro h
    have h2 : ∃ r : Nat, b.natAbs * b.natAbs * d.toNat = r * r := by
      rcases h with h | ⟨r, hr⟩
      · exact ⟨0, by rw [h]; simp⟩
      · exact ⟨b.natAbs * r, by rw [← hr]; grind⟩
    obtain ⟨r, hr⟩ := h2
    rw [hr, root_sq, ← Int.natCast_mul]
/-- a fraction's heights -/
theorem plain_at {a b c d : Int} (hd : 0 ≤ d) (hc : 0 < c) (hf : isFrac b d = true) (n : Int) : (⟨a, b, c, d.toNat⟩ : Line).at_ n = (n * (a + times b d)) / c := by
  rw [isFrac_plain (a := a) (c := c) hd] at hf
  have hf2 : (b == 0 || square d.toNat) = true := hf
  rw [Bool.or_eq_true, beq_iff_eq, square_iff] at hf2
  unfold Line.at_
  rw [Int.fdiv_eq_ediv_of_nonneg _ (Int.le_of_lt hc), times_def]
  congr 1
  rcases hf2 with h | ⟨r, hr⟩
  · subst h
    simp only [Int.zero_mul, rooted_zero, Int.add_zero]
    exact Int.mul_comm _ _
  · simp only [← hr, rooted_sq]
    grind
theorem plain_steps {a b c d : Int} (hd : 0 ≤ d) (hc : 0 < c) (hf : isFrac b d = true) (n k : Nat) : (⟨a, b, c, d.toNat⟩ : Line).steps n k = rowAt (a + times b d) c (((n : Int) * (a + times b d)) % c) k := by
  unfold Line.steps rowAt
  refine List.map_congr_left ?_
  intro i _
  unfold Line.step
  rw [plain_at hd hc hf, plain_at hd hc hf]
  generalize a + times b d = p
  have e : ∀ j : Nat, (((n : Int) + (j : Int)) * p) / c = ((n : Int) * p) / c + ris p c (((n : Int) * p) % c) j := by
    intro j
    unfold ris
    have := Int.mul_ediv_add_emod ((n : Int) * p) c
    have e1 : ((n : Int) + (j : Int)) * p = ((n : Int) * p % c + (j : Int) * p) + c * ((n : Int) * p / c) := by
      rw [Int.add_mul]; omega
    rw [e1, Int.add_mul_ediv_left _ _ (Int.ne_of_gt hc), Int.add_comm]
  have e1 := e i
  have e2 := e (i + 1)
  rw [Int.natCast_add] at e2 ⊢
  have e3 : (n : Int) + ((i : Int) + ((1 : Nat) : Int)) = (n : Int) + (i : Int) + 1 := by omega
  rw [e3] at e2
  rw [e1, e2]
  omega
/-- the greatest number that divides both -/
noncomputable def cf : Int → Int → Int := (boxed fun (x y : Int) => ((Int.gcd x y : Nat) : Int)).1
theorem cf_def (x y : Int) : cf x y = ((Int.gcd x y : Nat) : Int) := by
  have h : cf = fun (x y : Int) => ((Int.gcd x y : Nat) : Int) := (boxed _).2
  rw [h]
theorem cf_fact (x y : Int) : (-1000000000000000000000000000 ≤ x ∧ x ≤ 1000000000000000000000000000) ∧ (-1000000000000000000000000000 ≤ y ∧ y ≤ 1000000000000000000000000000) →
    0 ≤ cf x y ∧ (x ≠ 0 ∨ y ≠ 0 → 0 < cf x y) ∧ cf x y ≤ 1000000000000000000000000000 := by
  intro ⟨hx, hy⟩
  rw [cf_def]
  by_cases y0 : y = 0
  · subst y0
    rw [Int.gcd_zero_right]
    omega
  · have h1 : 0 < Int.gcd x y := Int.gcd_pos_of_ne_zero_right x y0
    have h2 : Int.gcd x y ≤ y.natAbs := Nat.le_of_dvd (by omega) (Nat.gcd_dvd_right _ _)
    omega
theorem cf_out {x y : Int} (hx : 0 ≤ x) (hy0 : 0 ≤ y) (h : ¬ y > 0) : x = cf x y := by
  have : y = 0 := by omega
  subst this
  rw [cf_def, Int.gcd_zero_right]
  omega
theorem cf_turn {x y : Int} (hx : 0 ≤ x) (h : y > 0) : cf y (x.fmod y) = cf x y ∧ 0 ≤ x.fmod y ∧ x.fmod y < y := by
  rw [Int.fmod_eq_emod_of_nonneg _ (by omega)]
  refine ⟨?_, Int.emod_nonneg _ (by omega), Int.emod_lt_of_pos _ h⟩
  rw [cf_def, cf_def]
  congr 1
  obtain ⟨m, rfl⟩ : ∃ m : Nat, x = (m : Int) := ⟨x.toNat, by omega⟩
  obtain ⟨n, rfl⟩ : ∃ n : Nat, y = (n : Int) := ⟨y.toNat, by omega⟩
  rw [← Int.natCast_emod]
  show Nat.gcd n (m % n) = Nat.gcd m n
  rw [Nat.gcd_comm n, ← Nat.gcd_rec, Nat.gcd_comm]
/-- the word of the loop of common_factor, and its ways -/
theorem cf_w_turn {x y f s : Int} (e : cf x y = cf f s) (hx : 0 ≤ x) (hx1 : x ≤ 1000000000000000000000000000) (hy1 : y ≤ 1000000000000000000000000000) (h : y > 0) :
    0 ≤ y ∧ y ≤ 1000000000000000000000000000 ∧ 0 ≤ x.fmod y ∧ x.fmod y ≤ 1000000000000000000000000000 ∧ cf y (x.fmod y) = cf f s := by
  obtain ⟨h1, h2, h3⟩ := cf_turn hx h
  exact ⟨by omega, hy1, h2, by omega, by rw [h1, e]⟩
theorem cf_w_out {x y f s : Int} (e : cf x y = cf f s) (hx : 0 ≤ x) (hy : 0 ≤ y) (h : ¬ y > 0) : x = cf f s := by
  rw [← e]
  exact cf_out hx hy h
theorem cf_abs (x y : Int) : cf ((x.natAbs : Nat) : Int) ((y.natAbs : Nat) : Int) = cf x y := by
  rw [cf_def, cf_def]
  simp [Int.gcd]
theorem cf_w_out2 {x y f s : Int} (e : cf x y = cf (if f < 0 then -f else f) (if s < 0 then -s else s)) (hx : 0 ≤ x) (hy : 0 ≤ y) (h : ¬ y > 0) : x = cf f s := by
  have h1 : ∀ z : Int, (if z < 0 then -z else z) = ((z.natAbs : Nat) : Int) := by
    intro z
    split <;> omega
  rw [h1, h1, cf_abs] at e
  exact cf_w_out e hx hy h
theorem cf_less {x y : Int} (h : y > 0) : (x.fmod y).toNat < y.toNat := by
  have := Int.emod_lt_of_pos x h
  have := Int.emod_nonneg x (Int.ne_of_gt h)
  rw [Int.fmod_eq_emod_of_nonneg _ (by omega)]
  omega
theorem rows_plain {a b c d k : Int} (hd : 0 ≤ d) (hc : 1 ≤ c) (hk : 1 ≤ k) (hf : isFrac b d = true) : PyRb26.rows a b c d k = [min (k + 1) (c.fdiv (cf (a + times b d) c))] := by
  have hp : (⟨a, b, c, d.toNat⟩ : Line).plain = true := by rw [← isFrac_plain hd]; exact hf
  have h1 : (⟨a, b, c, d.toNat⟩ : Line).rows k.toNat = min (k.toNat + 1) (c / (Int.gcd (a + times b d) c : Int)).toNat := by
    unfold Line.rows
    rw [if_pos hp, ← rows_count (by omega)]
    simp only [plain_steps hd (by omega : 0 < c) hf]
  show [(((⟨a, b, c, d.toNat⟩ : Line).rows k.toNat : Nat) : Int)] = _
  rw [h1, cf_def, Int.fdiv_eq_ediv_of_nonneg _ (Int.natCast_nonneg _)]
  have h2 : 0 ≤ c / (Int.gcd (a + times b d) c : Int) := Int.ediv_nonneg (by omega) (Int.natCast_nonneg _)
  congr 1
  omega
theorem rows_other {a b c d k : Int} (_ha : PyRb26.rows_asked a b c d k = true) (hf0 : isFrac b d = false) (hd : 0 ≤ d) (hk : 1 ≤ k) : [k + 1] = PyRb26.rows a b c d k := by
  have hf : ¬ isFrac b d = true := by rw [hf0]; decide
  have hp : ¬ (⟨a, b, c, d.toNat⟩ : Line).plain = true := by rw [← isFrac_plain hd]; exact hf
  have h1 : (⟨a, b, c, d.toNat⟩ : Line).rows k.toNat = k.toNat + 1 := by
    unfold Line.rows
    rw [if_neg hp]
  show _ = [(((⟨a, b, c, d.toNat⟩ : Line).rows k.toNat : Nat) : Int)]
  rw [h1]
  congr 1
  omega
theorem rows_end {a b c d k : Int} (_ha : PyRb26.rows_asked a b c d k = true) (hf : isFrac b d = true) (hd : 0 ≤ d) (hc : 1 ≤ c) (hk : 1 ≤ k) :
    [if c.fdiv (cf (a + times b d) c) < k + 1 then c.fdiv (cf (a + times b d) c) else k + 1] = PyRb26.rows a b c d k := by
  rw [rows_plain hd hc hk hf]
  congr 1
  split <;> omega
theorem times_fact (f d : Int) : -10000000000 ≤ f ∧ f ≤ 10000000000 ∧ 0 ≤ d ∧ d ≤ 1000 → -2000000000000 ≤ times f d ∧ times f d ≤ 2000000000000 := by
  intro ⟨f0, f1, d0, d1⟩
  have h3 := mul_in (x := f) (y := f) (p := 10000000000) (q := 10000000000) (by decide) (by decide) (by omega) (by omega) (by omega) (by omega)
  have h4 := mul_in (x := f * f) (y := d) (p := 100000000000000000000) (q := 1000) (by decide) (by decide) (by omega) (by omega) (by omega) (by omega)
  have h5 := Int.mul_nonneg (mul_self_nonneg f) d0
  have h6 := wr_fact (f * f * d) ⟨h5, by omega⟩
  by_cases hf : f ≥ 0
  · rw [← times_nonneg d0 hf]; omega
  · by_cases hq : wroot (f * f * d) * wroot (f * f * d) = f * f * d
    · rw [← times_neg d0 hf hq]; omega
    · rw [← times_neg' d0 hf hq]; omega
end LsM
namespace LsM
open Rb26
/-! ### the digits: one step -/
theorem fdiv_mul_pos {G q : Int} (h : 0 < G) : (G * q).fdiv G = q := Int.mul_fdiv_cancel_left q (Int.ne_of_gt h)
theorem fdiv_mul_neg {G q : Int} (h : 0 < G) : (G * q).fdiv (-G) = -q := by
  have e : G * q = (-G) * (-q) := by grind
  rw [e]
  exact Int.mul_fdiv_cancel_left (-q) (by omega)
theorem ediv_mul_pos {G q : Int} (h : 0 < G) : (G * q) / G = q := Int.mul_ediv_cancel_left q (Int.ne_of_gt h)
/-- the factor: the greatest number that divides all three -/
theorem cf3 {p q r : Int} (h : r ≠ 0) : ∃ G q1 q2 q3 : Int, cf (cf p q) r = G ∧ 0 < G ∧ p = G * q1 ∧ q = G * q2 ∧ r = G * q3 ∧ Nat.gcd (Nat.gcd q1.natAbs q2.natAbs) q3.natAbs = 1 ∧
    ((Nat.gcd (Nat.gcd p.natAbs q.natAbs) r.natAbs : Nat) : Int) = G := by
  have e : cf (cf p q) r = ((Nat.gcd (Nat.gcd p.natAbs q.natAbs) r.natAbs : Nat) : Int) := by
    rw [cf_def, cf_def]
    rfl
  have g0 : 0 < Nat.gcd (Nat.gcd p.natAbs q.natAbs) r.natAbs := Nat.gcd_pos_of_pos_right _ (by omega)
  have d3 : Nat.gcd (Nat.gcd p.natAbs q.natAbs) r.natAbs ∣ r.natAbs := Nat.gcd_dvd_right _ _
  have d0 := Nat.gcd_dvd_left (Nat.gcd p.natAbs q.natAbs) r.natAbs
  have d1 : Nat.gcd (Nat.gcd p.natAbs q.natAbs) r.natAbs ∣ p.natAbs := Nat.dvd_trans d0 (Nat.gcd_dvd_left _ _)
  have d2 : Nat.gcd (Nat.gcd p.natAbs q.natAbs) r.natAbs ∣ q.natAbs := Nat.dvd_trans d0 (Nat.gcd_dvd_right _ _)
  generalize hG : Nat.gcd (Nat.gcd p.natAbs q.natAbs) r.natAbs = G at *
  obtain ⟨q1, h1⟩ := Int.ofNat_dvd_left.mpr d1
  obtain ⟨q2, h2⟩ := Int.ofNat_dvd_left.mpr d2
  obtain ⟨q3, h3⟩ := Int.ofNat_dvd_left.mpr d3
  refine ⟨(G : Int), q1, q2, q3, e, by omega, h1, h2, h3, ?_, rfl⟩
  rw [h1, h2, h3, Int.natAbs_mul, Int.natAbs_mul, Int.natAbs_mul, Int.natAbs_natCast, Nat.gcd_mul_left, Nat.gcd_mul_left] at hG
  have : G * Nat.gcd (Nat.gcd q1.natAbs q2.natAbs) q3.natAbs = G * 1 := by rw [hG, Nat.mul_one]
  exact Nat.eq_of_mul_eq_mul_left g0 this
theorem flip_eq {x y z d : Int} (hd : 0 ≤ d) (hb : x * x - y * y * d ≠ 0) :
    (⟨x, y, z, d.toNat⟩ : Line).flip = ⟨(x * z).fdiv (if x * x - y * y * d < 0 then -(cf (cf (x * z) (-y * z)) (x * x - y * y * d)) else cf (cf (x * z) (-y * z)) (x * x - y * y * d)),
      (-y * z).fdiv (if x * x - y * y * d < 0 then -(cf (cf (x * z) (-y * z)) (x * x - y * y * d)) else cf (cf (x * z) (-y * z)) (x * x - y * y * d)),
      (x * x - y * y * d).fdiv (if x * x - y * y * d < 0 then -(cf (cf (x * z) (-y * z)) (x * x - y * y * d)) else cf (cf (x * z) (-y * z)) (x * x - y * y * d)), d.toNat⟩ := by
  obtain ⟨G, q1, q2, q3, hG, G0, h1, h2, h3, _, hN⟩ := cf3 (p := x * z) (q := -y * z) hb
  rw [hG]
  unfold Line.flip
  simp only [Int.toNat_of_nonneg hd]
  generalize hn : x * x - y * y * d = n at *
  by_cases neg : n < 0
  · simp only [if_pos neg]
    unfold Line.reduced
    have e : ((Nat.gcd (Nat.gcd (-(z * x)).natAbs (z * y).natAbs) (-n).natAbs : Nat) : Int) = G := by
      rw [← hN, Int.natAbs_neg, Int.natAbs_neg]
      have e1 : (z * x).natAbs = (x * z).natAbs := by rw [Int.mul_comm]
      have e2 : (z * y).natAbs = (-y * z).natAbs := by rw [Int.neg_mul, Int.natAbs_neg, Int.mul_comm]
      rw [e1, e2]
    simp only [e]
    rw [if_neg (by omega)]
    have a1 : -(z * x) = G * (-q1) := by rw [Int.mul_comm, h1, Int.mul_neg]
    have a2 : z * y = G * (-q2) := by
      have : -(y * z) = G * q2 := by rw [← h2, Int.neg_mul]
      rw [Int.mul_comm, Int.mul_neg]
      omega
    have a3 : -n = G * (-q3) := by rw [Int.mul_neg]; omega
    rw [a1, a2, a3, ediv_mul_pos G0, ediv_mul_pos G0, ediv_mul_pos G0, h1, h2, h3, fdiv_mul_neg G0, fdiv_mul_neg G0, fdiv_mul_neg G0]
  · simp only [if_neg neg]
    unfold Line.reduced
    have e : ((Nat.gcd (Nat.gcd (z * x).natAbs (-(z * y)).natAbs) n.natAbs : Nat) : Int) = G := by
      rw [← hN]
      have e1 : (z * x).natAbs = (x * z).natAbs := by rw [Int.mul_comm]
      have e2 : (-(z * y)).natAbs = (-y * z).natAbs := by rw [Int.neg_mul, Int.mul_comm]
      rw [e1, e2]
    simp only [e]
    rw [if_neg (by omega)]
    have a1 : z * x = G * q1 := by rw [Int.mul_comm, h1]
    have a2 : -(z * y) = G * q2 := by rw [← h2, Int.neg_mul, Int.mul_comm]
    rw [a1, a2, h1, h2, h3, ediv_mul_pos G0, ediv_mul_pos G0, ediv_mul_pos G0, fdiv_mul_pos G0, fdiv_mul_pos G0, fdiv_mul_pos G0]
/-- how far a root goes -/
theorem pos_lower {p B W : Int} {D : Nat} (hW : 0 ≤ W) (hS : B * B * (D : Int) ≤ W * W) (h : Pos p B D) : -W < p ∨ (0 ≤ p) := by
  rcases h with ⟨_, h, _⟩ | ⟨_, h1, h2⟩ | ⟨_, h, _⟩
  · right; exact h
  · left
    have := lt_of_sq (x := -p) (y := W) hW (by rw [Int.neg_mul_neg]; omega)
    omega
  · right; omega
theorem norm_bound {p Q B W : Int} {D : Nat} (hQ : 0 < Q) (hW : 0 < W) (hS : B * B * (D : Int) ≤ W * W) (hA : Pos p B D) (hC : Pos (Q - p) (-B) D) :
    -W < p ∧ p < Q + W ∧ p * p - B * B * (D : Int) ≤ Q * (Q + 2 * W) ∧ -(Q * (Q + 2 * W)) ≤ p * p - B * B * (D : Int) := by
  have p1 : -W < p := by
    rcases pos_lower (Int.le_of_lt hW) hS hA with h | h <;> omega
  have p2 : p < Q + W := by
    rcases pos_lower (Int.le_of_lt hW) (by rw [Int.neg_mul_neg]; exact hS) hC with h | h <;> omega
  have S0 : 0 ≤ B * B * (D : Int) := Int.mul_nonneg (sq_nonneg B) (Int.natCast_nonneg D)
  have QQ : 0 ≤ Q * (Q + 2 * W) := Int.mul_nonneg (by omega) (by omega)
  have Q2 : Q * Q ≤ Q * (Q + 2 * W) := Int.mul_le_mul_of_nonneg_left (by omega) (by omega)
  have m1 : Q * (2 * p - Q) ≤ Q * (Q + 2 * W) := Int.mul_le_mul_of_nonneg_left (by omega) (by omega)
  have m2 : Q * (Q - 2 * p) ≤ Q * (Q + 2 * W) := Int.mul_le_mul_of_nonneg_left (by omega) (by omega)
  have e1 : (Q - p) * (Q - p) = Q * (Q - 2 * p) + p * p := by grind
  have e2 : p * p - (Q - p) * (Q - p) = Q * (2 * p - Q) := by grind
  refine ⟨p1, p2, ?_, ?_⟩
  · rcases hA with ⟨_, h, _⟩ | ⟨_, h1, h2⟩ | ⟨_, h, _⟩
    · rcases hC with ⟨_, g, _⟩ | ⟨_, _, g⟩ | ⟨_, g, _⟩
      · have := sq_le_sq h (show p ≤ Q by omega); omega
      · rw [Int.neg_mul_neg] at g; omega
      · have := sq_le_sq h (show p ≤ Q by omega); omega
    · omega
    · rcases hC with ⟨_, g, _⟩ | ⟨_, _, g⟩ | ⟨_, g, _⟩
      · have := sq_le_sq (show 0 ≤ p by omega) (show p ≤ Q by omega); omega
      · rw [Int.neg_mul_neg] at g; omega
      · have := sq_le_sq (show 0 ≤ p by omega) (show p ≤ Q by omega); omega
  · have pp := sq_nonneg p
    rcases hC with ⟨hB, _⟩ | ⟨hB, _⟩ | ⟨_, _, g⟩
    · rcases hA with ⟨hB2, _⟩ | ⟨hB2, _⟩ | ⟨_, _, h⟩
      · have : B = 0 := by omega
        subst this; simp at *; omega
      · have : B = 0 := by omega
        subst this; simp at *; omega
      · omega
    · rcases hA with ⟨hB2, _⟩ | ⟨hB2, _⟩ | ⟨_, _, h⟩
      · have : B = 0 := by omega
        subst this; simp at *; omega
      · have : B = 0 := by omega
        subst this; simp at *; omega
      · omega
    · rw [Int.neg_mul_neg] at g; omega
end LsM
namespace LsM
open Rb26
/-- by the greatest whole numbers: how large the digits' numbers get -/
structure Rep (d : Int) (len : Nat) (x y z : Int) : Prop where
  rep : ∃ g P B Q : Int, 0 < g ∧ g * x = P ∧ g * y = B ∧ g * z = Q ∧ 0 < Q ∧ Q ∣ P * P - B * B * d ∧ -1000000 ≤ B ∧ B ≤ 1000000 ∧
    Q ≤ 1000000 + 64000000 * (len : Int) ∧ -5000000000 ≤ P ∧ P ≤ 5000000000
structure Dig (x0 y0 z0 d k : Int) (told : List Int) (x y z : Int) : Prop where
  eq : Rb26.digits k.toNat ⟨x0, y0, z0, d.toNat⟩ = told ++ Rb26.digits (k.toNat - told.length) ⟨x, y, z, d.toNat⟩
  irr : y = 0 ∨ square d.toNat = false
  size : Rep d told.length x y z
theorem abs_le_mul {g x : Int} (hg : 0 < g) : (g * x).natAbs ≥ x.natAbs := by
  rw [Int.natAbs_mul]
  have : 1 * x.natAbs ≤ g.natAbs * x.natAbs := Nat.mul_le_mul_right _ (by omega)
  omega
theorem Rep.bounds {d x y z : Int} {len : Nat} (h : Rep d len x y z) (hl : len ≤ 60) : (-5000000000 ≤ x ∧ x ≤ 5000000000) ∧ (-1000000 ≤ y ∧ y ≤ 1000000) ∧ (1 ≤ z ∧ z ≤ 4000000000) := by
  obtain ⟨g, P, B, Q, g0, eP, eB, eQ, Q0, _, b1, b2, q1, p1, p2⟩ := h.rep
  have h1 := abs_le_mul (x := x) g0
  have h2 := abs_le_mul (x := y) g0
  have h3 := abs_le_mul (x := z) g0
  rw [eP] at h1
  rw [eB] at h2
  rw [eQ] at h3
  have z0 : 0 < z := by
    apply Int.lt_of_not_ge
    intro hz
    have := Int.mul_le_mul_of_nonneg_left hz (Int.le_of_lt g0)
    rw [Int.mul_zero] at this
    omega
  omega
theorem dvd_three {Q m q1 q2 q3 : Int} (h : Nat.gcd (Nat.gcd q1.natAbs q2.natAbs) q3.natAbs = 1) (h1 : Q ∣ m * q1) (h2 : Q ∣ m * q2) (h3 : Q ∣ m * q3) : Q ∣ m := by
  rw [← Int.natAbs_dvd_natAbs] at *
  rw [Int.natAbs_mul] at h1 h2 h3
  have h4 := Nat.dvd_gcd (Nat.dvd_gcd h1 h2) h3
  rw [Nat.gcd_mul_left, Nat.gcd_mul_left, h, Nat.mul_one] at h4
  exact h4
theorem rest_pos {x y z d : Int} (hz : 1 ≤ z) (hirr : y = 0 ∨ square d.toNat = false) (hne : ¬ (x - hgt x y z d 1 * z = 0 ∧ y = 0)) :
    Pos (x - hgt x y z d 1 * z) y d.toNat ∧ Pos (z - (x - hgt x y z d 1 * z)) (-y) d.toNat := by
  rw [hgt_def] at *
  obtain ⟨f1, f2⟩ := at_floor ⟨x, y, z, d.toNat⟩ 1 (by show 0 < z; omega)
  generalize (⟨x, y, z, d.toNat⟩ : Line).at_ 1 = w at *
  simp only [Int.mul_one] at f1 f2
  have e1 : z * w - x = -(x - w * z) := by rw [Int.mul_comm]; omega
  have e2 : z * (w + 1) - x = z - (x - w * z) := by rw [Int.mul_add, Int.mul_one, Int.mul_comm]; omega
  rw [e1] at f1
  rw [e2] at f2
  refine ⟨?_, f2⟩
  generalize x - w * z = u at *
  rcases hirr with h | h
  · subst h
    rw [Int.neg_zero] at f1
    have : u > 0 := by
      apply Int.lt_of_not_ge
      intro hu
      apply f1
      exact Or.inl ⟨Int.le_refl _, by omega, Or.inl (by omega)⟩
    exact Or.inl ⟨Int.le_refl _, by omega, Or.inl this⟩
  · apply Classical.byContradiction
    intro hn
    exact hne (Pos_three h hn f1)
theorem below_ne {x y d : Int} (hd : 0 ≤ d) (hirr : y = 0 ∨ square d.toNat = false) (hne : ¬ (x = 0 ∧ y = 0)) : x * x - y * y * d ≠ 0 := by
  intro h
  by_cases hy : y = 0
  · subst hy
    have : x ≠ 0 := fun hx => hne ⟨hx, rfl⟩
    have := sq_pos this
    simp at h
    omega
  · have hs : square d.toNat = false := by
      rcases hirr with h' | h'
      · exact absurd h' hy
      · exact h'
    have h2 : x.natAbs * x.natAbs = y.natAbs * y.natAbs * d.toNat := by
      have e1 : ((x.natAbs * x.natAbs : Nat) : Int) = x * x := Int.natAbs_mul_self
      have e2 : ((y.natAbs * y.natAbs * d.toNat : Nat) : Int) = y * y * d := by
        rw [Int.natCast_mul, natAbs_sq, Int.toNat_of_nonneg hd]
      omega
    have := (square_iff _).mpr (sq_of_mul (by omega) h2)
    rw [this] at hs
    cases hs
/-- the representation goes on -/
theorem Rep.turn {d x y z w : Int} {len : Nat} (h : Rep d len x y z) (hd : 0 ≤ d) (hd1 : d ≤ 1000) (hl : len ≤ 60) (hA : Pos (x - w * z) y d.toNat) (hC : Pos (z - (x - w * z)) (-y) d.toNat)
    {G q1 q2 q3 : Int} (G0 : 0 < G) (h1 : (x - w * z) * z = G * q1) (h2 : -y * z = G * q2) (h3 : (x - w * z) * (x - w * z) - y * y * d = G * q3) (hg : Nat.gcd (Nat.gcd q1.natAbs q2.natAbs) q3.natAbs = 1) (hb : (x - w * z) * (x - w * z) - y * y * d ≠ 0) :
    (q3 < 0 → Rep d (len + 1) (-q1) (-q2) (-q3)) ∧ (0 < q3 → Rep d (len + 1) q1 q2 q3) := by
  obtain ⟨g, P, B, Q, g0, eP, eB, eQ, Q0, hdv, b1, b2, hq1, p1, p2⟩ := h.rep
  have hD : ((d.toNat : Nat) : Int) = d := Int.toNat_of_nonneg hd
  generalize hx : x - w * z = x' at *
  -- P' = g * x'
  have eP' : g * x' = P - w * Q := by rw [← hx, ← eP, ← eQ]; grind
  generalize hP' : P - w * Q = P' at *
  have hdv' : Q ∣ P' * P' - B * B * d := by
    have e : P' * P' - B * B * d = (P * P - B * B * d) + Q * (w * (w * Q - 2 * P)) := by rw [← hP']; grind
    rw [e]
    exact Int.dvd_add hdv ⟨_, rfl⟩
  obtain ⟨Q', hQ'⟩ := hdv'
  have hA' : Pos P' B d.toNat := by
    rw [← eP', ← eB]
    exact (Pos_scale g0).mpr hA
  have hC' : Pos (Q - P') (-B) d.toNat := by
    have e1 : Q - P' = g * (z - x') := by rw [Int.mul_sub, eP', eQ]
    have e2 : -B = g * (-y) := by rw [Int.mul_neg, eB]
    rw [e1, e2]
    exact (Pos_scale g0).mpr hC
  have hS : B * B * ((d.toNat : Nat) : Int) ≤ 32000000 * 32000000 := by
    rw [hD]
    have f1 := mul_in (x := B) (y := B) (p := 1000000) (q := 1000000) (by decide) (by decide) (by omega) (by omega) (by omega) (by omega)
    have f2 := mul_in (x := B * B) (y := d) (p := 1000000000000) (q := 1000) (by decide) (by decide) (by omega) (by omega) (by omega) (by omega)
    omega
  obtain ⟨n1, n2, n3, n4⟩ := norm_bound Q0 (by decide : (0 : Int) < 32000000) hS hA' hC'
  have e64 : (2 * 32000000 : Int) = 64000000 := rfl
  rw [hD, hQ', e64] at n3 n4
  have Qb : Q' ≤ Q + 64000000 ∧ -(Q + 64000000) ≤ Q' := by
    constructor
    · apply Int.le_of_not_gt
      intro hh
      have := Int.mul_lt_mul_of_pos_left hh Q0
      omega
    · apply Int.le_of_not_gt
      intro hh
      have := Int.mul_lt_mul_of_pos_left hh Q0
      rw [Int.mul_neg] at this
      omega
  -- g * g * T = Q * ..
  have t1 : g * g * G * q1 = Q * P' := by
    have : g * g * (G * q1) = (g * x') * (g * z) := by rw [← h1]; grind
    rw [eP', eQ] at this
    rw [Int.mul_assoc (g * g), this, Int.mul_comm]
  have t2 : g * g * G * q2 = Q * (-B) := by
    have : g * g * (G * q2) = (-(g * y)) * (g * z) := by rw [← h2]; grind
    rw [eB, eQ] at this
    rw [Int.mul_assoc (g * g), this, Int.mul_comm]
  have t3 : g * g * G * q3 = Q * Q' := by
    have : g * g * (G * q3) = (g * x') * (g * x') - (g * y) * (g * y) * d := by rw [← h3]; grind
    rw [eP', eB, hQ'] at this
    rw [Int.mul_assoc (g * g), this]
  obtain ⟨g', hg'⟩ := dvd_three hg ⟨_, t1⟩ ⟨_, t2⟩ ⟨_, t3⟩
  have gg : 0 < Q * g' := by rw [← hg']; exact Int.mul_pos (Int.mul_pos g0 g0) G0
  have g'0 : 0 < g' := (pos_of_mul (Int.le_of_lt Q0) gg).2
  rw [hg'] at t1 t2 t3
  have r1 : g' * q1 = P' := Int.eq_of_mul_eq_mul_left (Int.ne_of_gt Q0) (by rw [← Int.mul_assoc]; exact t1)
  have r2 : g' * q2 = -B := Int.eq_of_mul_eq_mul_left (Int.ne_of_gt Q0) (by rw [← Int.mul_assoc]; exact t2)
  have r3 : g' * q3 = Q' := Int.eq_of_mul_eq_mul_left (Int.ne_of_gt Q0) (by rw [← Int.mul_assoc]; exact t3)
  constructor
  · intro hn
    have Qn : Q' < 0 := by
      rw [← r3]
      exact Int.mul_neg_of_pos_of_neg g'0 hn
    refine ⟨g', -P', B, -Q', g'0, by rw [Int.mul_neg, r1], by rw [Int.mul_neg, r2, Int.neg_neg], by rw [Int.mul_neg, r3], by omega, ?_, b1, b2, by omega, by omega, by omega⟩
    rw [Int.neg_mul_neg, hQ']
    exact ⟨-Q, by grind⟩
  · intro hn
    have Qn : 0 < Q' := by
      rw [← r3]
      exact Int.mul_pos g'0 hn
    refine ⟨g', P', -B, Q', g'0, r1, r2, r3, Qn, ?_, by omega, by omega, by omega, by omega, by omega⟩
    rw [Int.neg_mul_neg, hQ']
    exact ⟨Q, by grind⟩
/-! ### the loop -/
theorem dig_start {x y z d k : Int} (hx : -50000 ≤ x ∧ x ≤ 50000) (hy : -1000 ≤ y ∧ y ≤ 1000) (hz : 1 ≤ z ∧ z ≤ 1000) (hirr : y = 0 ∨ square d.toNat = false) : Dig x y z d k [] x y z := by
  refine ⟨by simp, hirr, ⟨z, z * x, z * y, z * z, by omega, rfl, rfl, rfl, Int.mul_pos (by omega) (by omega), ⟨x * x - y * y * d, by grind⟩, ?_⟩⟩
  have f1 := mul_in (x := z) (y := y) (p := 1000) (q := 1000) (by decide) (by decide) (by omega) (by omega) (by omega) (by omega)
  have f2 := mul_in (x := z) (y := z) (p := 1000) (q := 1000) (by decide) (by decide) (by omega) (by omega) (by omega) (by omega)
  have f3 := mul_in (x := z) (y := x) (p := 1000) (q := 50000) (by decide) (by decide) (by omega) (by omega) (by omega) (by omega)
  simp only [List.length_nil]
  omega
theorem digits_succ {n : Nat} {x y z d : Int} (h : ¬ (x - hgt x y z d 1 * z = 0 ∧ y = 0)) :
    Rb26.digits (n + 1) ⟨x, y, z, d.toNat⟩ = hgt x y z d 1 :: Rb26.digits n (⟨x - hgt x y z d 1 * z, y, z, d.toNat⟩ : Line).flip := by
  rw [hgt_def] at *
  exact if_neg h
theorem digits_stop {n : Nat} {x y z d : Int} (h : x - hgt x y z d 1 * z = 0 ∧ y = 0) : Rb26.digits (n + 1) ⟨x, y, z, d.toNat⟩ = [hgt x y z d 1] := by
  rw [hgt_def] at *
  exact if_pos h
theorem dig_turn {x0 y0 z0 d k x y z : Int} {told : List Int} (h : Dig x0 y0 z0 d k told x y z) (hne : ¬ (x - hgt x y z d 1 * z = 0 ∧ y = 0)) (hd : 0 ≤ d) (hd1 : d ≤ 1000) (hz : 1 ≤ z) (hk : (told.length : Int) < k) (hk2 : k ≤ 60) {x' F : Int} (ex : x' = x - hgt x y z d 1 * z)
    (eF : F = if x' * x' - y * y * d < 0 then -(cf (cf (x' * z) (-y * z)) (x' * x' - y * y * d)) else cf (cf (x' * z) (-y * z)) (x' * x' - y * y * d)) :
    Dig x0 y0 z0 d k (told ++ [hgt x y z d 1]) ((x' * z).fdiv F) ((-y * z).fdiv F) ((x' * x' - y * y * d).fdiv F) := by
  rw [← ex] at hne
  have hb := below_ne hd h.irr hne
  have hf := flip_eq (z := z) hd hb
  rw [← eF] at hf
  obtain ⟨G, q1, q2, q3, hG, G0, h1, h2, h3, hg, _⟩ := cf3 (p := x' * z) (q := -y * z) hb
  rw [hG] at eF
  refine ⟨?_, ?_, ?_⟩
  · rw [h.eq, List.append_assoc, List.length_append, List.length_singleton]
    congr 1
    have e : k.toNat - told.length = (k.toNat - (told.length + 1)) + 1 := by omega
    rw [e, digits_succ (by rw [← ex]; exact hne), ← ex, hf]
    rfl
  · rcases h.irr with hy | hs
    · left
      subst hy
      have : -(0 : Int) * z = 0 := by simp
      rw [this, Int.zero_fdiv]
    · exact Or.inr hs
  · obtain ⟨pA, pC⟩ := rest_pos hz h.irr (by rw [← ex]; exact hne)
    have := h.size.turn (w := hgt x y z d 1) hd hd1 (by omega) pA pC (G := G) (q1 := q1) (q2 := q2) (q3 := q3) G0 (by rw [← ex]; exact h1) h2 (by rw [← ex]; exact h3) hg (by rw [← ex]; exact hb)
    rw [List.length_append, List.length_singleton]
    by_cases neg : x' * x' - y * y * d < 0
    · rw [if_pos neg] at eF
      have q0 : q3 < 0 := by
        apply Int.lt_of_not_ge
        intro hh
        have := Int.mul_nonneg (Int.le_of_lt G0) hh
        omega
      rw [eF, h1, h2, h3, fdiv_mul_neg G0, fdiv_mul_neg G0, fdiv_mul_neg G0]
      exact this.1 q0
    · rw [if_neg neg] at eF
      have q0 : 0 < q3 := by
        apply Int.lt_of_not_ge
        intro hh
        have := Int.mul_le_mul_of_nonneg_left hh (Int.le_of_lt G0)
        rw [Int.mul_zero] at this
        omega
      rw [eF, h1, h2, h3, fdiv_mul_pos G0, fdiv_mul_pos G0, fdiv_mul_pos G0]
      exact this.2 q0
/-- out of turns -/
theorem dig_out {x0 y0 z0 d k x y z : Int} {told : List Int} (h : Dig x0 y0 z0 d k told x y z) (hk : ¬ (told.length : Int) < k) : told = Rb26.digits k.toNat ⟨x0, y0, z0, d.toNat⟩ := by
  rw [h.eq]
  have e : k.toNat - told.length = 0 := by omega
  rw [e]
  simp [Rb26.digits]
/-- nothing is left -/
theorem dig_stop {x0 y0 z0 d k x y z : Int} {told : List Int} (h : Dig x0 y0 z0 d k told x y z) (hx : x - hgt x y z d 1 * z = 0) (hy : y = 0) (hk : (told.length : Int) < k) : told ++ [hgt x y z d 1] = Rb26.digits k.toNat ⟨x0, y0, z0, d.toNat⟩ := by
  rw [h.eq]
  have e : k.toNat - told.length = (k.toNat - (told.length + 1)) + 1 := by omega
  rw [e, digits_stop ⟨hx, hy⟩]
/-! ### what is due -/
theorem at_flat (x z : Int) (d e : Nat) (n : Int) : (⟨x, 0, z, d⟩ : Line).at_ n = (⟨x, 0, z, e⟩ : Line).at_ n := by
  unfold Line.at_
  simp only [Int.zero_mul, rooted_zero]
theorem flat_flip (x z : Int) (d : Nat) : ∃ x1 z1 : Int, (⟨x, 0, z, d⟩ : Line).flip = ⟨x1, 0, z1, d⟩ ∧ (⟨x, 0, z, 0⟩ : Line).flip = ⟨x1, 0, z1, 0⟩ := by
  unfold Line.flip
  simp only [Int.zero_mul, Int.mul_zero, Int.sub_zero, Int.neg_zero]
  have : ¬ x * x < 0 := by have := sq_nonneg x; omega
  simp only [if_neg this]
  unfold Line.reduced
  dsimp only
  split
  · exact ⟨_, _, rfl, rfl⟩
  · simp only [Int.zero_ediv]
    exact ⟨_, _, rfl, rfl⟩
theorem digits_flat : ∀ (k : Nat) (x z : Int) (d : Nat), Rb26.digits k ⟨x, 0, z, d⟩ = Rb26.digits k ⟨x, 0, z, 0⟩
  | 0, _, _, _ => rfl
  | k + 1, x, z, d => by
    unfold Rb26.digits
    rw [at_flat x z d 0 1]
    unfold Line.less
    dsimp only
    obtain ⟨x1, z1, e1, e2⟩ := flat_flip (x - (⟨x, 0, z, 0⟩ : Line).at_ 1 * z) z d
    rw [e1, e2, digits_flat k]
theorem digits_frac {a b c d k : Int} (hd : 0 ≤ d) (hf : isFrac b d = true) : PyRb26.digits a b c d k = ((Rb26.digits k.toNat ⟨a + times b d, 0, c, d.toNat⟩).length : Int) :: Rb26.digits k.toNat ⟨a + times b d, 0, c, d.toNat⟩ := by
  have h : Rb26.digits k.toNat (⟨a, b, c, d.toNat⟩ : Line).simple = Rb26.digits k.toNat ⟨a + times b d, 0, c, d.toNat⟩ := by
    unfold Line.simple
    dsimp only
    by_cases hs : square d.toNat = true
    · rw [if_pos hs, digits_flat _ _ _ d.toNat, times_def]
      obtain ⟨r, hr⟩ := (square_iff _).mp hs
      rw [← hr, rooted_sq, root_sq]
    · rw [if_neg hs]
      rw [isFrac_plain (a := a) (c := c) hd] at hf
      have hf2 : (b == 0 || square d.toNat) = true := hf
      rw [Bool.or_eq_true, beq_iff_eq] at hf2
      rcases hf2 with h0 | h0
      · subst h0
        rw [times_def, rooted_zero, Int.add_zero]
      · exact absurd h0 hs
  show ((Rb26.digits k.toNat (⟨a, b, c, d.toNat⟩ : Line).simple).length : Int) :: Rb26.digits k.toNat (⟨a, b, c, d.toNat⟩ : Line).simple = _
  rw [h]
theorem not_frac {b d : Int} (hd : 0 ≤ d) (hf : isFrac b d = false) : square d.toNat = false := by
  rw [isFrac_plain (a := 0) (c := 1) hd] at hf
  have hf2 : (b == 0 || square d.toNat) = false := hf
  rw [Bool.or_eq_false_iff] at hf2
  exact hf2.2
theorem digits_root {a b c d k : Int} (hd : 0 ≤ d) (hf : isFrac b d = false) : PyRb26.digits a b c d k = ((Rb26.digits k.toNat ⟨a, b, c, d.toNat⟩).length : Int) :: Rb26.digits k.toNat ⟨a, b, c, d.toNat⟩ := by
  have hs := not_frac hd hf
  have h : (⟨a, b, c, d.toNat⟩ : Line).simple = ⟨a, b, c, d.toNat⟩ := by
    unfold Line.simple
    dsimp only
    rw [hs]
    rfl
  show ((Rb26.digits k.toNat (⟨a, b, c, d.toNat⟩ : Line).simple).length : Int) :: Rb26.digits k.toNat (⟨a, b, c, d.toNat⟩ : Line).simple = _
  rw [h]
end LsM
namespace LsM
open PySem PySem.W PySem.Calls PyProof.Rows
section
variable {prog : Program} {w : World} {A : Around} {E : Value → Shared → Prop} {s : Shared} {x y : Int} {t u : Tok} {Q : Value → Shared → Prop}
theorem step_div8 (hy : y ≠ 0) (h0 : -1000000000000000000000000000 ≤ y) (hs : y ≤ 1000000000000000000000000000) (h : Q (.int (x.fdiv y) s.toks) { s with toks := s.toks + 1 }) :
    wpAny (model prog w) A (binaryOp .FloorDiv (.int x t) (.int y u)) Q E s :=
  PyProof.Rows.floordiv_int hy h (Or.inl (pylong90 h0 hs))
theorem step_mod8 (hy : y ≠ 0) (h : Q (.int (x.fmod y) s.toks) { s with toks := s.toks + 1 }) :
    wpAny (model prog w) A (binaryOp .Mod (.int x t) (.int y u)) Q E s := PyProof.Rows.mod_int hy h
theorem step_mul_one (e : x = 1) (y0 : -1000000000000000000000000000 ≤ y) (y1 : y ≤ 1000000000000000000000000000) (h : x * y = y → Q (.int (x * y) s.toks) { s with toks := s.toks + 1 }) :
    wpAny (model prog w) A (binaryOp .Mult (.int x t) (.int y u)) Q E s :=
  PyProof.Rows.mul_int (h (by rw [e, Int.one_mul])) (PySem.IntMulOk.of_bits (bits90 (by omega) (by omega)) (bits90 y0 y1))
theorem step_mul_sq (x0 : -10000000000 ≤ x) (x1 : x ≤ 10000000000) (h : 0 ≤ x * x ∧ x * x ≤ 100000000000000000000 → Q (.int (x * x) s.toks) { s with toks := s.toks + 1 }) :
    wpAny (model prog w) A (binaryOp .Mult (.int x t) (.int x u)) Q E s :=
  PyProof.Rows.mul_int (h ⟨mul_self_nonneg x, (mul_in (p := 10000000000) (q := 10000000000) (by decide) (by decide) x0 x1 x0 x1).2⟩) (PySem.IntMulOk.of_bits (bits90 (by omega) (by omega)) (bits90 (by omega) (by omega)))
theorem step_mul_a (x0 : 0 ≤ x) (x1 : x ≤ 100000000000000000000) (y0 : 0 ≤ y) (y1 : y ≤ 1000) (h : 0 ≤ x * y ∧ x * y ≤ 100000000000000000000000 → Q (.int (x * y) s.toks) { s with toks := s.toks + 1 }) :
    wpAny (model prog w) A (binaryOp .Mult (.int x t) (.int y u)) Q E s :=
  PyProof.Rows.mul_int (h ⟨Int.mul_nonneg x0 y0, (mul_in (p := 100000000000000000000) (q := 1000) (by decide) (by decide) (by omega) x1 (by omega) y1).2⟩) (PySem.IntMulOk.of_bits (bits90 (by omega) (by omega)) (bits90 (by omega) (by omega)))
theorem step_mul_c (x0 : -1000000 ≤ x) (x1 : x ≤ 1000000) (y0 : -10000 ≤ y) (y1 : y ≤ 10000) (h : -10000000000 ≤ x * y ∧ x * y ≤ 10000000000 → Q (.int (x * y) s.toks) { s with toks := s.toks + 1 }) :
    wpAny (model prog w) A (binaryOp .Mult (.int x t) (.int y u)) Q E s :=
  PyProof.Rows.mul_int (h (mul_in (p := 1000000) (q := 10000) (by decide) (by decide) x0 x1 y0 y1)) (PySem.IntMulOk.of_bits (bits90 (by omega) (by omega)) (bits90 (by omega) (by omega)))
theorem step_mul_b (x0 : -10000000000 ≤ x) (x1 : x ≤ 10000000000) (y0 : -10000000000 ≤ y) (y1 : y ≤ 10000000000) (h : -100000000000000000000 ≤ x * y ∧ x * y ≤ 100000000000000000000 → Q (.int (x * y) s.toks) { s with toks := s.toks + 1 }) :
    wpAny (model prog w) A (binaryOp .Mult (.int x t) (.int y u)) Q E s :=
  PyProof.Rows.mul_int (h (mul_in (p := 10000000000) (q := 10000000000) (by decide) (by decide) x0 x1 y0 y1)) (PySem.IntMulOk.of_bits (bits90 (by omega) (by omega)) (bits90 (by omega) (by omega)))
theorem step_below {x0 y0 z0 k z p q d : Int} {told : List Int} {x' : Int} (hI : Dig x0 y0 z0 d k told x' q z) (hd : 0 ≤ d) (hne : ¬ (p = 0 ∧ q = 0)) (h : p * p - q * q * d ≠ 0 → Q (.int (p * p - q * q * d) s.toks) { s with toks := s.toks + 1 }) :
    wpAny (model prog w) A (binaryOp .Sub (.int (p * p) t) (.int (q * q * d) u)) Q E s :=
  PyProof.Rows.sub_int (h (below_ne hd hI.irr hne))
end
theorem hgt_fact8 (a b c d n : Int) : (-5000000000 ≤ a ∧ a ≤ 5000000000) ∧ (-1000000 ≤ b ∧ b ≤ 1000000) ∧ (1 ≤ c ∧ c ≤ 4000000000) ∧ (0 ≤ d ∧ d ≤ 1000) ∧ n = 1 →
    (-10000000000 ≤ hgt a b c d n ∧ hgt a b c d n ≤ 10000000000) ∧ -5000000000 ≤ a - hgt a b c d n * c ∧ a - hgt a b c d n * c ≤ 5000000000 := by
  intro ⟨ha, hb, hc, hd, hn⟩
  subst hn
  rw [hgt_eq, Int.one_mul, Int.one_mul]
  have ht : -40000000 ≤ times b d ∧ times b d ≤ 40000000 := by
    have h3 := mul_in (x := b) (y := b) (p := 1000000) (q := 1000000) (by decide) (by decide) (by omega) (by omega) (by omega) (by omega)
    have h4 := mul_in (x := b * b) (y := d) (p := 1000000000000) (q := 1000) (by decide) (by decide) (by omega) (by omega) (by omega) (by omega)
    have h5 := Int.mul_nonneg (mul_self_nonneg b) hd.1
    obtain ⟨w0, w1, w2⟩ := wroot_ok h5
    have h6 : wroot (b * b * d) ≤ 32000000 := by
      apply le_of_sq (by decide)
      have : (32000000 : Int) * 32000000 = 1024000000000000 := rfl
      omega
    by_cases hf : b ≥ 0
    · rw [← times_nonneg hd.1 hf]; omega
    · by_cases hq : wroot (b * b * d) * wroot (b * b * d) = b * b * d
      · rw [← times_neg hd.1 hf hq]; omega
      · rw [← times_neg' hd.1 hf hq]; omega
  generalize times b d = t at *
  rw [Int.fdiv_eq_ediv_of_nonneg _ (by omega)]
  have m0 := Int.emod_nonneg (a + t) (show c ≠ 0 by omega)
  have m1 := Int.emod_lt_of_pos (a + t) (show 0 < c by omega)
  have dv := Int.mul_ediv_add_emod (a + t) c
  have b1 : (a + t) / c ≤ 10000000000 := by
    apply Int.le_of_lt_add_one
    rw [Int.ediv_lt_iff_lt_mul (by omega)]
    have := Int.mul_le_mul_of_nonneg_left (show 1 ≤ c from hc.1) (show (0 : Int) ≤ 10000000000 + 1 by decide)
    omega
  have b2 : -10000000000 ≤ (a + t) / c := by
    rw [Int.le_ediv_iff_mul_le (by omega)]
    have := Int.mul_le_mul_of_nonneg_left (show 1 ≤ c from hc.1) (show (0 : Int) ≤ 10000000000 by decide)
    omega
  rw [Int.mul_comm] at dv
  omega
end LsM
namespace LsM
open Rb26
/-! ### less by whole numbers alone -/
theorem below_iff (x y : Int) (d : Nat) : x + rooted y d < 0 ↔ Pos (-x) (-y) d := by
  obtain ⟨f1, f2⟩ := rooted_floor y d
  constructor
  · intro h
    exact Pos_le (by omega) f2
  · intro h
    apply Int.lt_of_not_ge
    intro g
    exact f1 (Pos_le (by omega) h)
/-- what the program asks: x + y roots below 0 -/
theorem below_above {x y d : Int} : x + times y d < 0 ↔ above (-x) (-y) d.toNat = true := by
  rw [times_def, below_iff, above_iff]
def ln (a b c d : Int) : Line := ⟨a, b, c, d.toNat⟩
noncomputable def offX : Int → Int → Int → Int → Int → Int → Int := (boxed fun (a b c d p q : Int) => ((ln a b c d).off p q).1).1
noncomputable def offY : Int → Int → Int → Int → Int → Int → Int := (boxed fun (a b c d p q : Int) => ((ln a b c d).off p q).2).1
theorem offX_def (a b c d p q : Int) : offX a b c d p q = ((ln a b c d).off p q).1 := by
  have h : offX = fun (a b c d p q : Int) => ((ln a b c d).off p q).1 := (boxed _).2
  rw [h]
theorem offY_def (a b c d p q : Int) : offY a b c d p q = ((ln a b c d).off p q).2 := by
  have h : offY = fun (a b c d p q : Int) => ((ln a b c d).off p q).2 := (boxed _).2
  rw [h]
theorem off_neg {a b c d p q : Int} (h : q * a - p * c - 0 + times (q * b - 0) d < 0) : -(q * a - p * c) = offX a b c d p q ∧ -(q * b) = offY a b c d p q := by
  rw [Int.sub_zero, Int.sub_zero, below_above] at h
  rw [offX_def, offY_def]
  unfold Line.off ln
  dsimp only
  rw [Int.mul_comm a, Int.mul_comm b, if_pos h]
  exact ⟨rfl, rfl⟩
theorem off_pos {a b c d p q : Int} (h : ¬ q * a - p * c - 0 + times (q * b - 0) d < 0) : q * a - p * c = offX a b c d p q ∧ q * b = offY a b c d p q := by
  rw [Int.sub_zero, Int.sub_zero, below_above] at h
  rw [offX_def, offY_def]
  unfold Line.off ln
  dsimp only
  rw [Int.mul_comm a, Int.mul_comm b, if_neg h]
  exact ⟨rfl, rfl⟩
/-- nearer -/
def NearerP (a b c d p q p' q' : Int) : Prop := offX a b c d p q - offX a b c d p' q' + times (offY a b c d p q - offY a b c d p' q') d < 0
theorem nearer_iff {a b c d p q p' q' : Int} : NearerP a b c d p q p' q' ↔ (ln a b c d).nearer (p, q) (p', q') = true := by
  unfold NearerP
  rw [below_above, offX_def, offX_def, offY_def, offY_def]
  unfold Line.nearer
  dsimp only
  rw [Int.neg_sub, Int.neg_sub]
  rfl
theorem nearer_trans {L : Line} {u v w : Int × Int} (h1 : L.nearer u v = true) (h2 : L.nearer v w = true) : L.nearer u w = true := by
  unfold Line.nearer at *
  rw [above_iff] at *
  have := h1.add h2
  have e1 : (L.off v.1 v.2).1 - (L.off u.1 u.2).1 + ((L.off w.1 w.2).1 - (L.off v.1 v.2).1) = (L.off w.1 w.2).1 - (L.off u.1 u.2).1 := by omega
  have e2 : (L.off v.1 v.2).2 - (L.off u.1 u.2).2 + ((L.off w.1 w.2).2 - (L.off v.1 v.2).2) = (L.off w.1 w.2).2 - (L.off u.1 u.2).2 := by omega
  rw [e1, e2] at this
  exact this
theorem not_nearer_trans {L : Line} {u v w : Int × Int} (h1 : ¬ L.nearer u v = true) (h2 : ¬ L.nearer v w = true) : ¬ L.nearer u w = true := by
  unfold Line.nearer at *
  rw [above_iff] at *
  generalize L.off u.1 u.2 = x at *
  generalize L.off v.1 v.2 = y at *
  generalize L.off w.1 w.2 = z at *
  have e : ∀ {p q : Int × Int}, ¬ Pos (p.1 - q.1) (p.2 - q.2) L.d → ¬ Pos (-(q.1 - p.1)) (-(q.2 - p.2)) L.d := by
    intro p q h
    rw [Int.neg_sub, Int.neg_sub]
    exact h
  have := nonneg_add (e h1) (e h2)
  have e1 : -(x.1 - y.1 + (y.1 - z.1)) = z.1 - x.1 := by omega
  have e2 : -(x.2 - y.2 + (y.2 - z.2)) = z.2 - x.2 := by omega
  rw [e1, e2] at this
  exact this
theorem nearer_irrefl {L : Line} {u : Int × Int} : ¬ L.nearer u u = true := by
  unfold Line.nearer
  rw [above_iff, Int.sub_self, Int.sub_self]
  intro h
  exact h.not_neg (by simpa using h)
/-- one turn of the program -/
def pturn (L : Line) (u : Int × Int) (q : Int) : Int × Int :=
  let v := if L.nearer (L.at_ q, q) u = true then (L.at_ q, q) else u
  if L.nearer (L.at_ q + 1, q) v = true then (L.at_ q + 1, q) else v
def sturn (L : Line) (u : Int × Int) (q : Int) : Int × Int :=
  let v := if L.nearer (L.at_ q + 1, q) (L.at_ q, q) = true then (L.at_ q + 1, q) else (L.at_ q, q)
  if L.nearer v u = true then v else u
theorem turn_same (L : Line) (u : Int × Int) (q : Int) : pturn L u q = sturn L u q := by
  unfold pturn sturn
  dsimp only
  generalize (L.at_ q, q) = lo
  generalize (L.at_ q + 1, q) = hi
  by_cases h1 : L.nearer lo u = true
  · rw [if_pos h1]
    by_cases h2 : L.nearer hi lo = true
    · rw [if_pos h2, if_pos (nearer_trans h2 h1)]
    · rw [if_neg h2, if_pos h1]
  · rw [if_neg h1]
    by_cases h2 : L.nearer hi lo = true
    · rw [if_pos h2]
    · rw [if_neg h2, if_neg h1, if_neg (not_nearer_trans h2 h1)]
theorem first_turn (L : Line) : pturn L (L.at_ 1, 1) 1 = if L.nearer (L.at_ 1 + 1, 1) (L.at_ 1, 1) = true then (L.at_ 1 + 1, 1) else (L.at_ 1, 1) := by
  unfold pturn
  dsimp only
  rw [if_neg nearer_irrefl]
/-- so many turns -/
def pfold (L : Line) (n : Nat) : Int × Int := (List.range n).foldl (fun u (i : Nat) => pturn L u ((i : Int) + 1)) (L.at_ 1, 1)
theorem pfold_succ (L : Line) (n : Nat) : pfold L (n + 1) = pturn L (pfold L n) ((n : Int) + 1) := by
  unfold pfold
  rw [List.range_succ, List.foldl_append]
  rfl
theorem near_is (L : Line) (n : Nat) : pfold L (n + 1) = L.near (n + 1) := by
  have key : ∀ m : Nat, pfold L (m + 1) = (List.range (m + 1)).foldl (fun u (i : Nat) => sturn L u ((i : Int) + 1)) (pturn L (L.at_ 1, 1) 1) := by
    intro m
    induction m with
    | zero =>
      rw [pfold_succ]
      show pturn L (L.at_ 1, 1) 1 = sturn L (pturn L (L.at_ 1, 1) 1) 1
      rw [first_turn]
      unfold sturn
      dsimp only
      generalize (if L.nearer (L.at_ 1 + 1, 1) (L.at_ 1, 1) = true then (L.at_ 1 + 1, (1 : Int)) else (L.at_ 1, 1)) = v
      rw [if_neg nearer_irrefl]
    | succ m ih =>
      rw [pfold_succ, ih, List.range_succ (n := m + 1), List.foldl_append]
      rw [turn_same]
      rfl
  rw [key, first_turn]
  rfl
theorem near_due {a b c d k : Int} (hk : 1 ≤ k) : PyRb26.near a b c d k = [0, (pfold (ln a b c d) k.toNat).1, (pfold (ln a b c d) k.toNat).2] := by
  show [0, ((ln a b c d).near k.toNat).1, ((ln a b c d).near k.toNat).2] = _
  have e : k.toNat = (k.toNat - 1) + 1 := by omega
  rw [e, near_is]
end LsM
namespace LsM
open Rb26 PySem PySem.W
/-- so far the best; its distance -/
structure NW {a b c d m : Int} (hA : PyRb26.near_asked a b c d m = true) (n : Nat) (bp bq : Int) : Prop where
  eq : (bp, bq) = pfold (ln a b c d) n
structure LI {a b c d m : Int} (hA : PyRb26.near_asked a b c d m = true) (bp bq x y : Int) : Prop where
  ex : x = offX a b c d bp bq
  ey : y = offY a b c d bp bq
theorem at_hgt (a b c d n : Int) : (ln a b c d).at_ n = hgt a b c d n := by rw [hgt_def]; rfl
section
variable {a b c d m : Int} {hA : PyRb26.near_asked a b c d m = true}
theorem li_neg {p q : Int} (h : q * a - p * c - 0 + times (q * b - 0) d < 0) : LI hA p q (-(q * a - p * c)) (-(q * b)) := ⟨(off_neg h).1, (off_neg h).2⟩
theorem li_pos {p q : Int} (h : ¬ q * a - p * c - 0 + times (q * b - 0) d < 0) : LI hA p q (q * a - p * c) (q * b) := ⟨(off_pos h).1, (off_pos h).2⟩
theorem nw_start {x y : Int} (h : LI hA (hgt a b c d 1) 1 x y) (y0 : -1000000 ≤ y) (y1 : y ≤ 1000000) {pre : List Int} (hp : pre = []) :
    NW hA pre.length (hgt a b c d 1) 1 ∧ ∃ x' y' : Int, Dat.tuple [Dat.int x, Dat.int y] = Dat.tuple [Dat.int x', Dat.int y'] ∧ (-1000000 ≤ y' ∧ y' ≤ 1000000) ∧ LI hA (hgt a b c d 1) 1 x' y' := by
  subst hp
  refine ⟨⟨?_⟩, x, y, rfl, ⟨y0, y1⟩, h⟩
  unfold pfold
  rw [← at_hgt]
  rfl
theorem near_of {p q p' q' x y x' y' : Int} (h : LI hA p q x y) (h' : LI hA p' q' x' y') : (x - x' + times (y - y') d < 0) ↔ (ln a b c d).nearer (p, q) (p', q') = true := by
  rw [← nearer_iff]
  unfold NearerP
  rw [h.ex, h.ey, h'.ex, h'.ey]
theorem nw_keep {pre : List Int} {bp bq q x y x1 y1 x2 y2 : Int} (h : NW hA pre.length bp bq) (hl : LI hA bp bq x y) (h1 : LI hA (hgt a b c d q) q x1 y1) (h2 : LI hA (hgt a b c d q + 1) q x2 y2)
    (c1 : ¬ x1 - x + times (y1 - y) d < 0) (c2 : ¬ x2 - x + times (y2 - y) d < 0) (hq : q = 1 + (pre.length : Int)) (y0 : -1000000 ≤ y) (y9 : y ≤ 1000000) :
    NW hA (pre ++ [q]).length bp bq ∧ ∃ x' y' : Int, Dat.tuple [Dat.int x, Dat.int y] = Dat.tuple [Dat.int x', Dat.int y'] ∧ (-1000000 ≤ y' ∧ y' ≤ 1000000) ∧ LI hA bp bq x' y' := by
  refine ⟨⟨?_⟩, x, y, rfl, ⟨y0, y9⟩, hl⟩
  rw [List.length_append, List.length_singleton, pfold_succ, ← h.eq]
  have e : (pre.length : Int) + 1 = q := by omega
  rw [e]
  rw [near_of h1 hl] at c1
  rw [near_of h2 hl] at c2
  unfold pturn
  rw [at_hgt]
  dsimp only
  rw [if_neg c1, if_neg c2]
theorem nw_low {pre : List Int} {bp bq q x y x1 y1 x2 y2 : Int} (h : NW hA pre.length bp bq) (hl : LI hA bp bq x y) (h1 : LI hA (hgt a b c d q) q x1 y1) (h2 : LI hA (hgt a b c d q + 1) q x2 y2)
    (c1 : x1 - x + times (y1 - y) d < 0) (c2 : ¬ x2 - x1 + times (y2 - y1) d < 0) (hq : q = 1 + (pre.length : Int)) (y0 : -1000000 ≤ y1) (y9 : y1 ≤ 1000000) :
    NW hA (pre ++ [q]).length (hgt a b c d q) q ∧ ∃ x' y' : Int, Dat.tuple [Dat.int x1, Dat.int y1] = Dat.tuple [Dat.int x', Dat.int y'] ∧ (-1000000 ≤ y' ∧ y' ≤ 1000000) ∧ LI hA (hgt a b c d q) q x' y' := by
  refine ⟨⟨?_⟩, x1, y1, rfl, ⟨y0, y9⟩, h1⟩
  rw [List.length_append, List.length_singleton, pfold_succ, ← h.eq]
  have e : (pre.length : Int) + 1 = q := by omega
  rw [e]
  rw [near_of h1 hl] at c1
  rw [near_of h2 h1] at c2
  unfold pturn
  rw [at_hgt]
  dsimp only
  rw [if_pos c1, if_neg c2]
theorem nw_high {pre : List Int} {bp bq q x y x1 y1 x2 y2 : Int} (h : NW hA pre.length bp bq) (hl : LI hA bp bq x y) (h1 : LI hA (hgt a b c d q) q x1 y1) (h2 : LI hA (hgt a b c d q + 1) q x2 y2)
    (c1 : ¬ x1 - x + times (y1 - y) d < 0) (c2 : x2 - x + times (y2 - y) d < 0) (hq : q = 1 + (pre.length : Int)) (y0 : -1000000 ≤ y2) (y9 : y2 ≤ 1000000) :
    NW hA (pre ++ [q]).length (hgt a b c d q + 1) q ∧ ∃ x' y' : Int, Dat.tuple [Dat.int x2, Dat.int y2] = Dat.tuple [Dat.int x', Dat.int y'] ∧ (-1000000 ≤ y' ∧ y' ≤ 1000000) ∧ LI hA (hgt a b c d q + 1) q x' y' := by
  refine ⟨⟨?_⟩, x2, y2, rfl, ⟨y0, y9⟩, h2⟩
  rw [List.length_append, List.length_singleton, pfold_succ, ← h.eq]
  have e : (pre.length : Int) + 1 = q := by omega
  rw [e]
  rw [near_of h1 hl] at c1
  rw [near_of h2 hl] at c2
  unfold pturn
  rw [at_hgt]
  dsimp only
  rw [if_neg c1, if_pos c2]
theorem nw_both {pre : List Int} {bp bq q x y x1 y1 x2 y2 : Int} (h : NW hA pre.length bp bq) (hl : LI hA bp bq x y) (h1 : LI hA (hgt a b c d q) q x1 y1) (h2 : LI hA (hgt a b c d q + 1) q x2 y2)
    (c1 : x1 - x + times (y1 - y) d < 0) (c2 : x2 - x1 + times (y2 - y1) d < 0) (hq : q = 1 + (pre.length : Int)) (y0 : -1000000 ≤ y2) (y9 : y2 ≤ 1000000) :
    NW hA (pre ++ [q]).length (hgt a b c d q + 1) q ∧ ∃ x' y' : Int, Dat.tuple [Dat.int x2, Dat.int y2] = Dat.tuple [Dat.int x', Dat.int y'] ∧ (-1000000 ≤ y' ∧ y' ≤ 1000000) ∧ LI hA (hgt a b c d q + 1) q x' y' := by
  refine ⟨⟨?_⟩, x2, y2, rfl, ⟨y0, y9⟩, h2⟩
  rw [List.length_append, List.length_singleton, pfold_succ, ← h.eq]
  have e : (pre.length : Int) + 1 = q := by omega
  rw [e]
  rw [near_of h1 hl] at c1
  rw [near_of h2 h1] at c2
  unfold pturn
  rw [at_hgt]
  dsimp only
  rw [if_pos c1, if_pos c2]
theorem nw_end {n : Nat} {bp bq : Int} (h : NW hA n bp bq) (hk : 1 ≤ m) (hn : n = m.toNat) : [0, bp, bq] = PyRb26.near a b c d m := by
  rw [near_due hk, ← hn, ← h.eq]
end
section
open PySem.Calls PyProof.Rows
variable {prog : Program} {w : World} {A : Around} {E : Value → Shared → Prop} {s : Shared} {x y : Int} {t u : Tok} {Q : Value → Shared → Prop}
theorem step_mul_n (x0 : -1000 ≤ x) (x1 : x ≤ 1000) (y0 : -1000 ≤ y) (y1 : y ≤ 1000) (h : -1000000 ≤ x * y ∧ x * y ≤ 1000000 → Q (.int (x * y) s.toks) { s with toks := s.toks + 1 }) :
    wpAny (model prog w) A (binaryOp .Mult (.int x t) (.int y u)) Q E s :=
  PyProof.Rows.mul_int (h (mul_in (p := 1000) (q := 1000) (by decide) (by decide) x0 x1 y0 y1)) (PySem.IntMulOk.of_bits (bits90 (by omega) (by omega)) (bits90 (by omega) (by omega)))
theorem step_mul_g (x0 : -1000000000000000000000000000 ≤ x) (x1 : x ≤ 1000000000000000000000000000) (y0 : -1000000000000000000000000000 ≤ y) (y1 : y ≤ 1000000000000000000000000000) (h : Q (.int (x * y) s.toks) { s with toks := s.toks + 1 }) :
    wpAny (model prog w) A (binaryOp .Mult (.int x t) (.int y u)) Q E s :=
  PyProof.Rows.mul_int h (PySem.IntMulOk.of_bits (bits90 x0 x1) (bits90 y0 y1))
end
end LsM
namespace LsM
open PySem PySem.W PySem.Calls PyProof.Rows
/-- one entry taken out -/
inductive Out1 (q : Addr × Obj) : List (Addr × Obj) → List (Addr × Obj) → Prop
  | here {l : List (Addr × Obj)} : Out1 q (q :: l) l
  | there {p : Addr × Obj} {l l' : List (Addr × Obj)} : Out1 q l l' → Out1 q (p :: l) (p :: l')
theorem Out1.mem {q : Addr × Obj} {l l' : List (Addr × Obj)} (h : Out1 q l l') : q ∈ l ∧ ∀ p ∈ l', p ∈ l := by
  induction h with
  | here => exact ⟨List.mem_cons_self, fun p hp => List.mem_cons_of_mem _ hp⟩
  | there _ ih => exact ⟨List.mem_cons_of_mem _ ih.1, fun p hp => by
      rcases List.mem_cons.mp hp with e | e
      · rw [e]; exact List.mem_cons_self
      · exact List.mem_cons_of_mem _ (ih.2 p e)⟩
theorem unr_end {h₀ : Heap} {L : Addr} {q : Addr × Obj} {rest : (Str → Option Value) → List (Addr × Obj) → Prop} {s₁ : Shared} {h' : Heap} {tk : Nat} {m' : Str → Option Value} {all news' : List (Addr × Obj)}
    (F : Fr h₀ L h' m') (N : News h₀ L h' all) (D : Out1 q all news') (off : ∀ p ∈ news', p.1 ≠ q.1) (r : rest m' news') : UnrEndW h₀ L s₁ [q] rest { s₁ with heap := h', toks := tk } :=
  ⟨h', tk, m', news', rfl, F, fun p hp => by
    rcases List.mem_append.mp hp with hp | hp
    · rw [List.mem_singleton.mp hp]; exact N _ D.mem.1
    · exact N p (D.mem.2 p hp), fun p hp q' hq e => by
    rw [List.mem_singleton.mp hq] at e
    exact off p hp e, r⟩
theorem unr_endN {h₀ : Heap} {L : Addr} {q : Addr × Obj} {rest : (Str → Option Value) → List (Addr × Obj) → Prop} {s₁ : Shared} {h' : Heap} {tk : Nat} {m' : Str → Option Value} {all : List (Addr × Obj)} (n : Nat)
    (F : Fr h₀ L h' m') (N : News h₀ L h' all) (D : all[n]? = some q) (off : ∀ p ∈ all.eraseIdx n, p.1 ≠ q.1) (r : rest m' (all.eraseIdx n)) : UnrEndW h₀ L s₁ [q] rest { s₁ with heap := h', toks := tk } :=
  ⟨h', tk, m', all.eraseIdx n, rfl, F, fun p hp => by
    rcases List.mem_append.mp hp with hp | hp
    · rw [List.mem_singleton.mp hp]; exact N _ (List.mem_of_getElem? D)
    · exact N p (List.mem_of_mem_eraseIdx hp), fun p hp q' hq e => by
    rw [List.mem_singleton.mp hq] at e
    exact off p hp e, r⟩
end LsM
namespace LsM
open Rb26 PySem PySem.W PySem.Calls PyProof.Rows
/-- a pair of whole numbers -/
abbrev pairOf (X Y : Int) (t1 t2 : Tok) : Obj := { cls := .type "tuple", data := .seq #[.int X t1, .int Y t2] }
/-- what distance gives back: one new pair -/
def DistR (h₀ : Heap) (L : Addr) (m : Str → Option Value) (news : List (Addr × Obj)) (s : Shared) (X Y : Int) (v : Value) (s' : Shared) : Prop :=
  ∃ (D : Addr) (h' : Heap) (tk : Nat) (t1 t2 : Tok), v = .ref D ∧ s' = { s with heap := h', toks := tk } ∧ Fr h₀ L h' m ∧ News h₀ L h' ((D, pairOf X Y t1 t2) :: news) ∧ AllLt D news
theorem offY_in {a b c d p q : Int} (b0 : -1000 ≤ b) (b1 : b ≤ 1000) (q0 : -1000 ≤ q) (q1 : q ≤ 1000) : -1000000 ≤ offY a b c d p q ∧ offY a b c d p q ≤ 1000000 := by
  have h := mul_in (x := q) (y := b) (p := 1000) (q := 1000) (by decide) (by decide) q0 q1 b0 b1
  by_cases g : q * a - p * c - 0 + times (q * b - 0) d < 0
  · rw [← (off_neg g).2]; omega
  · rw [← (off_pos g).2]; omega
section
variable {prog : Program} {w : World} {A : Around} {E : Value → Shared → Prop} {s : Shared} {h₀ : Heap} {L : Addr} {m : Str → Option Value} {news : List (Addr × Obj)} {Q : Value → Shared → Prop}
theorem dist_merge {f : Addr} {a b c d p q : Int} {ta tb tc td tp tq : Tok} (F : Fr h₀ L s.heap m) (N : News h₀ L s.heap news) (b0 : -1000 ≤ b) (b1 : b ≤ 1000) (q0 : -1000 ≤ q) (q1 : q ≤ 1000)
    (h1 : wpAny (model prog w) A (call (.ref f) [.int a ta, .int b tb, .int c tc, .int d td, .int p tp, .int q tq]) (DistR h₀ L m news s (offX a b c d p q) (offY a b c d p q)) E s)
    (h2 : ∀ (D : Addr) (h' : Heap) (tk : Nat) (t1 t2 : Tok), -1000000 ≤ offY a b c d p q ∧ offY a b c d p q ≤ 1000000 → Fr h₀ L h' m → News h₀ L h' ((D, pairOf (offX a b c d p q) (offY a b c d p q) t1 t2) :: news) → AllLt D news → Q (.ref D) { s with heap := h', toks := tk }) :
    wpAny (model prog w) A (call (.ref f) [.int a ta, .int b tb, .int c tc, .int d td, .int p tp, .int q tq]) Q E s := by
  refine wpAny_mono h1 ?_ (fun _ _ e => e)
  rintro v s' ⟨D, h', tk, t1, t2, rfl, rfl, F', N', l⟩
  exact h2 D h' tk t1 t2 (offY_in b0 b1 q0 q1) F' N' l
theorem news_two {h' : Heap} {D : Addr} {o : Obj} {e1 e2 : Addr × Obj} (N : News h₀ L h' ((D, o) :: e1 :: e2 :: news)) : News h₀ L h' ((D, o) :: news) := by
  intro x hx
  refine N x ?_
  rcases List.mem_cons.mp hx with e | e
  · rw [e]; exact List.mem_cons_self
  · exact List.mem_cons_of_mem _ (List.mem_cons_of_mem _ (List.mem_cons_of_mem _ e))
theorem dist_neg {h' : Heap} {D : Addr} {tk : Nat} {t1 t2 : Tok} {e1 e2 : Addr × Obj} {a b c d p q : Int} (hc : q * a - p * c - 0 + times (q * b - 0) d < 0) (F : Fr h₀ L h' m) (N : News h₀ L h' ((D, pairOf (-(q * a - p * c)) (-(q * b)) t1 t2) :: e1 :: e2 :: news)) (l : AllLt D news) :
    DistR h₀ L m news s (offX a b c d p q) (offY a b c d p q) (.ref D) { s with heap := h', toks := tk } := by
  refine ⟨D, h', tk, t1, t2, rfl, rfl, F, ?_, l⟩
  rw [← (off_neg hc).1, ← (off_neg hc).2]
  exact news_two N
theorem dist_pos {h' : Heap} {D : Addr} {tk : Nat} {t1 t2 : Tok} {e1 e2 : Addr × Obj} {a b c d p q : Int} (hc : ¬ q * a - p * c - 0 + times (q * b - 0) d < 0) (F : Fr h₀ L h' m) (N : News h₀ L h' ((D, pairOf (q * a - p * c) (q * b) t1 t2) :: e1 :: e2 :: news)) (l : AllLt D news) :
    DistR h₀ L m news s (offX a b c d p q) (offY a b c d p q) (.ref D) { s with heap := h', toks := tk } := by
  refine ⟨D, h', tk, t1, t2, rfl, rfl, F, ?_, l⟩
  rw [← (off_pos hc).1, ← (off_pos hc).2]
  exact news_two N
theorem li_self {a b c d m : Int} {hA : PyRb26.near_asked a b c d m = true} {p q : Int} : LI hA p q (offX a b c d p q) (offY a b c d p q) := ⟨rfl, rfl⟩
theorem two_off {P R T : Prop} (h : P ∧ R ∧ T) : T := h.2.2
end
end LsM
namespace LsM
open Rb26
/-! ### the order of the parts -/
theorem off_at {L : Line} (hc : 0 < L.c) (q : Int) : L.off (L.at_ q) q = (L.a * q - L.at_ q * L.c, L.b * q) := by
  have h := (at_floor L q hc).1
  unfold Line.off
  dsimp only
  rw [if_neg]
  rw [above_iff]
  have e : -(L.a * q - L.at_ q * L.c) = L.c * L.at_ q - L.a * q := by rw [Int.mul_comm (L.at_ q)]; omega
  rw [e]
  exact h
theorem nearer_lower {L : Line} (hc : 0 < L.c) (i j : Nat) : L.nearer (L.at_ (i : Int), (i : Int)) (L.at_ (j : Int), (j : Int)) = L.lower i j := by
  unfold Line.nearer Line.lower
  rw [off_at hc, off_at hc]
  dsimp only
  have e1 : L.a * (j : Int) - L.at_ (j : Int) * L.c - (L.a * (i : Int) - L.at_ (i : Int) * L.c) = L.a * ((j : Int) - (i : Int)) - L.c * (L.at_ (j : Int) - L.at_ (i : Int)) := by
    rw [Int.mul_sub, Int.mul_sub, Int.mul_comm (L.at_ (j : Int)), Int.mul_comm (L.at_ (i : Int))]
    omega
  have e2 : L.b * (j : Int) - L.b * (i : Int) = L.b * ((j : Int) - (i : Int)) := by rw [Int.mul_sub]
  rw [e1, e2]
theorem lower_trans {L : Line} (hc : 0 < L.c) {i j k : Nat} (h1 : L.lower i j = true) (h2 : L.lower j k = true) : L.lower i k = true := by
  rw [← nearer_lower hc] at *
  exact nearer_trans h1 h2
theorem lower_total {L : Line} (hp : L.plain = false) {i j : Nat} (hij : i ≠ j) (h : ¬ L.lower i j = true) : L.lower j i = true := by
  unfold Line.plain at hp
  rw [Bool.or_eq_false_iff] at hp
  obtain ⟨hb, hd⟩ := hp
  have hb' : L.b ≠ 0 := by simpa using hb
  apply Classical.byContradiction
  intro g
  unfold Line.lower at h g
  dsimp only at h g
  rw [above_iff] at h g
  have e1 : L.a * ((i : Int) - (j : Int)) - L.c * (L.at_ (i : Int) - L.at_ (j : Int)) = -(L.a * ((j : Int) - (i : Int)) - L.c * (L.at_ (j : Int) - L.at_ (i : Int))) := by
    simp only [Int.mul_sub]
    omega
  have e2 : L.b * ((i : Int) - (j : Int)) = -(L.b * ((j : Int) - (i : Int))) := by
    simp only [Int.mul_sub]
    omega
  rw [e1, e2] at g
  have := (Pos_three hd h g).2
  rcases Int.mul_eq_zero.mp this with z | z
  · exact hb' z
  · omega
/-- in order -/
def Sorted (L : Line) (l : List Nat) : Prop := l.Pairwise fun i j => L.lower i j = true
theorem mem_insert {L : Line} {i x : Nat} : ∀ {l : List Nat}, x ∈ L.insert_ i l ↔ x = i ∨ x ∈ l
  | [] => by simp [Line.insert_]
  | j :: l => by
    unfold Line.insert_
    by_cases h : L.lower i j = true
    · rw [if_pos h]; simp
    · rw [if_neg h, List.mem_cons, List.mem_cons, mem_insert]
      constructor
      · rintro (e | e | e)
        · exact .inr (.inl e)
        · exact .inl e
        · exact .inr (.inr e)
      · rintro (e | e | e)
        · exact .inr (.inl e)
        · exact .inl e
        · exact .inr (.inr e)
theorem length_insert {L : Line} {i : Nat} : ∀ {l : List Nat}, (L.insert_ i l).length = l.length + 1
  | [] => by simp [Line.insert_]
  | j :: l => by
    unfold Line.insert_
    by_cases h : L.lower i j = true
    · rw [if_pos h]; simp
    · rw [if_neg h, List.length_cons, List.length_cons, length_insert]
theorem sorted_insert {L : Line} (hc : 0 < L.c) (hp : L.plain = false) {i : Nat} : ∀ {l : List Nat}, Sorted L l → i ∉ l → Sorted L (L.insert_ i l)
  | [], _, _ => by simp [Sorted, Line.insert_]
  | j :: l, h, hi => by
    unfold Sorted at h ⊢
    unfold Line.insert_
    rw [List.pairwise_cons] at h
    by_cases g : L.lower i j = true
    · rw [if_pos g, List.pairwise_cons, List.pairwise_cons]
      refine ⟨?_, h⟩
      intro x hx
      rcases List.mem_cons.mp hx with e | e
      · rw [e]; exact g
      · exact lower_trans hc g (h.1 x e)
    · rw [if_neg g, List.pairwise_cons]
      refine ⟨?_, sorted_insert hc hp h.2 (fun z => hi (List.mem_cons_of_mem _ z))⟩
      intro x hx
      rcases mem_insert.mp hx with e | e
      · rw [e]
        exact lower_total hp (fun z => hi (by rw [z]; exact List.mem_cons_self)) g
      · exact h.1 x e
/-- put in from behind: the same -/
theorem insert_at {L : Line} (hc : 0 < L.c) {i : Nat} : ∀ {l : List Nat} (s : Nat), Sorted L l → s ≤ l.length → (∀ k (hk : k < l.length), s ≤ k → L.lower i l[k] = true) → (∀ (hs : s - 1 < l.length), 0 < s → ¬ L.lower i l[s - 1] = true) → L.insert_ i l = l.take s ++ i :: l.drop s
  | [], s, _, hs, _, _ => by
    have : s = 0 := by simpa using hs
    subst this
    rfl
  | j :: l, 0, _, _, h1, _ => by
    have := h1 0 (by simp) (Nat.le_refl _)
    unfold Line.insert_
    rw [if_pos (by simpa using this)]
    rfl
  | j :: l, s + 1, hsrt, hs, h1, h2 => by
    unfold Sorted at hsrt
    rw [List.pairwise_cons] at hsrt
    have hs' : s ≤ l.length := by simpa using hs
    have hn : ¬ L.lower i j = true := by
      intro g
      have q := h2 (by simp; omega) (by omega)
      rcases (by omega : s = 0 ∨ 0 < s) with e | e
      · subst e
        exact q (by simpa using g)
      · obtain ⟨t, rfl⟩ : ∃ t, s = t + 1 := ⟨s - 1, by omega⟩
        apply q
        have e : (j :: l)[t + 1 + 1 - 1]'(by simp; omega) = l[t]'(by omega) := by simp
        rw [e]
        exact lower_trans hc g (hsrt.1 _ (List.getElem_mem _))
    unfold Line.insert_
    rw [if_neg hn, insert_at hc s hsrt.2 hs' ?_ ?_]
    · rfl
    · intro k hk hle
      have := h1 (k + 1) (by simpa using hk) (by omega)
      simpa using this
    · intro hk hp
      have := h2 (by simp; omega) (by omega)
      obtain ⟨t, rfl⟩ : ∃ t, s = t + 1 := ⟨s - 1, by omega⟩
      have e : (j :: l)[t + 1 + 1 - 1]'(by simp; omega) = l[t + 1 - 1]'(by omega) := by simp
      rw [e] at this
      exact this
theorem order_succ (L : Line) (n : Nat) : L.order (n + 1) = L.insert_ n (L.order n) := by
  unfold Line.order
  rw [List.range_succ, List.foldl_append]
  rfl
theorem mem_order {L : Line} {n x : Nat} : x ∈ L.order n ↔ x < n := by
  induction n with
  | zero => simp [Line.order]
  | succ n ih => rw [order_succ, mem_insert, ih]; omega
theorem length_order {L : Line} {n : Nat} : (L.order n).length = n := by
  induction n with
  | zero => simp [Line.order]
  | succ n ih => rw [order_succ, length_insert, ih]
theorem sorted_order {L : Line} (hc : 0 < L.c) (hp : L.plain = false) : ∀ n : Nat, Sorted L (L.order n)
  | 0 => by simp [Sorted, Line.order]
  | n + 1 => by
    rw [order_succ]
    exact sorted_insert hc hp (sorted_order hc hp n) (by rw [mem_order]; omega)
/-! ### the program's lists -/
theorem order_due {a b c d n : Int} : PyRb26.order a b c d n = (((gaps ((ln a b c d).order n.toNat)).eraseDups.length : Nat) : Int) :: ((ln a b c d).order n.toNat).map (fun (i : Nat) => (i : Int)) := rfl
theorem order_asked_of {a b c d n : Int} (h : PyRb26.order_asked a b c d n = true) : (ln a b c d).plain = false ∧ 0 < (ln a b c d).c ∧ 1 ≤ n := by
  have h1 : ((Rb26Neutral.slope a b c d && (Rb26Neutral.within n 1 100 && !(ln a b c d).plain)) && true && (decide (1 ≤ 1) && decide (1 ≤ 60))) = true := h
  simp only [Bool.and_eq_true, Rb26Neutral.slope, Rb26Neutral.within, decide_eq_true_eq, Bool.not_eq_true'] at h1
  obtain ⟨⟨⟨hs, hn, hp⟩, _⟩, _⟩ := h1
  exact ⟨hp, by show 0 < c; omega, hn.1⟩
/-- the places that are in order so far -/
structure OW {a b c d n : Int} (_hA : PyRb26.order_asked a b c d n = true) (k : Nat) (ns : List Int) : Prop where
  is : ns = ((ln a b c d).order k).map (fun (i : Nat) => (i : Int))
/-- how far the new place has come down -/
structure WI {a b c d n : Int} (_hA : PyRb26.order_asked a b c d n = true) (at_ spot : Int) (ns : List Int) : Prop where
  lo : 0 ≤ spot
  hi : spot ≤ (ns.length : Int)
  up : ∀ (k : Nat) (j : Int), spot ≤ (k : Int) → ns[k]? = some j → NearerP a b c d (hgt a b c d at_) at_ (hgt a b c d j) j
section
variable {a b c d n : Int} {hA : PyRb26.order_asked a b c d n = true}
theorem OW.length {k : Nat} {ns : List Int} (h : OW hA k ns) : ns.length = k := by
  rw [h.is, List.length_map, length_order]
theorem OW.get {k i : Nat} {ns : List Int} {j : Int} (h : OW hA k ns) (hj : ns[i]? = some j) : ∃ m : Nat, j = (m : Int) ∧ m < k ∧ ((ln a b c d).order k)[i]? = some m := by
  rw [h.is, List.getElem?_map] at hj
  cases e : ((ln a b c d).order k)[i]? with
  | none => rw [e] at hj; cases hj
  | some m =>
    rw [e] at hj
    simp only [Option.map_some, Option.some.injEq] at hj
    exact ⟨m, hj.symm, mem_order.mp (List.mem_of_getElem? e), rfl⟩
theorem ow_start : OW hA 0 [] := ⟨by simp [Line.order]⟩
theorem wi_start {at_ : Int} {ns : List Int} {s : Int} (hs : s = (ns.length : Int)) : WI hA at_ s ns := by
  refine ⟨by omega, by omega, ?_⟩
  intro k j hk hj
  have := (List.getElem?_eq_some_iff.mp hj).1
  omega
theorem wi_turn {at_ spot j : Int} {ns : List Int} (h : WI hA at_ spot ns) (hs : spot > 0) (hj : ns[(spot - 1).toNat]? = some j) (hl : offX a b c d (hgt a b c d at_) at_ - offX a b c d (hgt a b c d j) j + times (offY a b c d (hgt a b c d at_) at_ - offY a b c d (hgt a b c d j) j) d < 0) : WI hA at_ (spot - 1) ns := by
  have h1 := h.lo
  have h2 := h.hi
  refine ⟨by omega, by omega, ?_⟩
  intro k i hk hi
  rcases (by omega : k = (spot - 1).toNat ∨ spot ≤ (k : Int)) with e | e
  · subst e
    rw [hj] at hi
    cases hi
    exact hl
  · exact h.up k i e hi
theorem wi_end {k : Nat} {at_ spot : Int} {ns : List Int} (h : OW hA k ns) (hw : WI hA at_ spot ns) (hk : at_ = (k : Int)) (hn : 0 < spot → ∀ j, ns[(spot - 1).toNat]? = some j → ¬ NearerP a b c d (hgt a b c d at_) at_ (hgt a b c d j) j) : OW hA (k + 1) (ns.take spot.toNat ++ at_ :: ns.drop spot.toNat) := by
  obtain ⟨hp, hc, _⟩ := order_asked_of hA
  have hl := h.length
  have h1 := hw.lo
  have h2 := hw.hi
  refine ⟨?_⟩
  have tr : ∀ i m : Nat, ((ln a b c d).order k)[i]? = some m → (NearerP a b c d (hgt a b c d at_) at_ (hgt a b c d (m : Int)) (m : Int) ↔ (ln a b c d).lower k m = true) := by
    intro i m _
    rw [hk, nearer_iff, ← nearer_lower hc, at_hgt, at_hgt]
  rw [order_succ, insert_at hc spot.toNat (sorted_order hc hp k) (by rw [length_order]; omega) ?_ ?_]
  · rw [h.is, List.map_append, List.map_cons, List.map_take, List.map_drop, hk]
  · intro i hi hle
    have e : ((ln a b c d).order k)[i]? = some ((ln a b c d).order k)[i] := List.getElem?_eq_getElem hi
    rw [← tr i _ e]
    refine hw.up i _ (by omega) ?_
    rw [h.is, List.getElem?_map, e]
    rfl
  · intro hi h0 g
    have e : ((ln a b c d).order k)[spot.toNat - 1]? = some ((ln a b c d).order k)[spot.toNat - 1] := List.getElem?_eq_getElem hi
    rw [← tr _ _ e] at g
    refine hn (by omega) _ ?_ g
    have e2 : (spot - 1).toNat = spot.toNat - 1 := by omega
    rw [e2, h.is, List.getElem?_map, e]
    rfl
end
/-! ### from each to the next -/
def jmp (ns : List Int) (k : Int) : Int := ns.getD k.toNat 0 - ns.getD (if k = 0 then ns.length - 1 else (k - 1).toNat) 0
theorem gaps_get {l : List Nat} {i : Nat} (hi : i < l.length) : (gaps l)[i]? = some ((if h : i + 1 < l.length then (l[i + 1] : Int) else (l[0]'(by omega) : Int)) - (l[i] : Int)) := by
  unfold gaps
  have key : (l.zip (l.drop 1 ++ l.take 1))[i]? = some (l[i], if h : i + 1 < l.length then l[i + 1] else l[0]'(by omega)) := by
    refine List.getElem?_zip_eq_some.mpr ⟨List.getElem?_eq_getElem hi, ?_⟩
    by_cases h : i + 1 < l.length
    · rw [dif_pos h, List.getElem?_append_left (by rw [List.length_drop]; omega), List.getElem?_drop, Nat.add_comm 1 i]
      exact List.getElem?_eq_getElem h
    · rw [dif_neg h, List.getElem?_append_right (by rw [List.length_drop]; omega), List.length_drop]
      have e : i - (l.length - 1) = 0 := by omega
      rw [e, List.getElem?_take, if_pos (by omega)]
      exact List.getElem?_eq_getElem (by omega)
  rw [List.getElem?_map, key]
  by_cases h : i + 1 < l.length
  · simp [h]
  · simp [h]
theorem gaps_length {l : List Nat} : (gaps l).length = l.length := by
  unfold gaps
  rw [List.length_map, List.length_zip, List.length_append, List.length_drop, List.length_take]
  omega
theorem jumps_mem {l : List Nat} (x : Int) : x ∈ (PySem.W.rangeKs 0 l.length).map (jmp (l.map fun (i : Nat) => (i : Int))) ↔ x ∈ gaps l := by
  have gd : ∀ i (hi : i < l.length), (l.map fun (i : Nat) => (i : Int)).getD i 0 = (l[i] : Int) := by
    intro i hi
    rw [List.getD_eq_getElem?_getD, List.getElem?_map, List.getElem?_eq_getElem hi]
    rfl
  rw [List.mem_map, List.mem_iff_getElem?]
  constructor
  · rintro ⟨k, hk, rfl⟩
    obtain ⟨k0, k1⟩ := PySem.W.mem_rangeKs hk
    have hlen : k.toNat < l.length := by omega
    unfold jmp
    rw [gd _ hlen]
    rcases (by omega : k = 0 ∨ 1 ≤ k) with e | e
    · refine ⟨l.length - 1, ?_⟩
      subst e
      rw [if_pos rfl, List.length_map, gd _ (by omega), gaps_get (by omega), dif_neg (by omega)]
      rfl
    · refine ⟨(k - 1).toNat, ?_⟩
      rw [if_neg (by omega), gd _ (by omega), gaps_get (by omega), dif_pos (by omega)]
      have e2 : (k - 1).toNat + 1 = k.toNat := by omega
      simp only [e2]
  · rintro ⟨i, hi⟩
    have hlt : i < l.length := by
      have := (List.getElem?_eq_some_iff.mp hi).1
      rw [gaps_length] at this
      exact this
    rw [gaps_get hlt] at hi
    have hx := Option.some.inj hi
    unfold jmp
    by_cases h : i + 1 < l.length
    · refine ⟨((i + 1 : Nat) : Int), List.mem_map.mpr ⟨i + 1, List.mem_range.mpr h, by omega⟩, ?_⟩
      rw [dif_pos h] at hx
      have e1 : (((i + 1 : Nat) : Int)).toNat = i + 1 := by omega
      have e2 : (((i + 1 : Nat) : Int) - 1).toNat = i := by omega
      rw [if_neg (by omega), e1, e2, gd _ h, gd _ hlt]
      exact hx
    · refine ⟨0, List.mem_map.mpr ⟨0, List.mem_range.mpr (by omega), by omega⟩, ?_⟩
      rw [dif_neg h] at hx
      have e : i = l.length - 1 := by omega
      subst e
      rw [if_pos rfl, List.length_map, gd _ hlt]
      have e1 : ((0 : Int)).toNat = 0 := rfl
      rw [e1, gd 0 (by omega)]
      exact hx
theorem met_nodup : ∀ (js acc : List Int), acc.Nodup → (js.foldl PyProof.Rows.step_dedup acc).Nodup
  | [], _, h => h
  | x :: js, acc, h => by
    rw [List.foldl_cons]
    refine met_nodup js _ ?_
    unfold PyProof.Rows.step_dedup
    by_cases g : acc.any (· == x) = true
    · rw [if_pos g]; exact h
    · rw [if_neg g, List.nodup_append]
      refine ⟨h, by simp, ?_⟩
      intro y hy z hz e
      rw [List.mem_singleton] at hz
      subst hz
      subst e
      exact g (List.any_eq_true.mpr ⟨y, hy, by simp⟩)
theorem range_getD (js : List Int) : (List.range js.length).map (fun i => js.getD i 0) = js := by
  apply List.ext_getElem
  · simp
  · intro i h1 h2
    simp [h2]
theorem met_count {js m : List Int} {k : Nat} (hk : k = js.length) (h : ∀ x, x ∈ js ↔ x ∈ m) : (PyProof.Rows.firstMet (fun i => js.getD i 0) k).length = m.eraseDups.length := by
  subst hk
  have hm : ∀ x, x ∈ m ↔ x ∈ PyProof.Rows.firstMet (fun i => js.getD i 0) js.length := by
    intro x
    rw [← h x]
    have e := PyProof.Rows.firstMet_any (fun i => js.getD i 0) js.length x
    rw [range_getD] at e
    constructor
    · intro hx
      have : js.any (· == x) = true := List.any_eq_true.mpr ⟨x, hx, by simp⟩
      rw [this] at e
      obtain ⟨y, hy, ey⟩ := List.any_eq_true.mp e
      rw [beq_iff_eq] at ey
      rw [← ey]; exact hy
    · intro hx
      have : (PyProof.Rows.firstMet (fun i => js.getD i 0) js.length).any (· == x) = true := List.any_eq_true.mpr ⟨x, hx, by simp⟩
      rw [this] at e
      obtain ⟨y, hy, ey⟩ := List.any_eq_true.mp e.symm
      rw [beq_iff_eq] at ey
      rw [← ey]; exact hy
  exact (eraseDups_count (met_nodup _ _ (by simp)) hm).symm
theorem ow_end {a b c d n : Int} {hA : PyRb26.order_asked a b c d n = true} {k m : Nat} {ns : List Int} (h : OW hA k ns) (hk : k = n.toNat) (hm : m = k) : ((PyProof.Rows.firstMet (fun i => ((PySem.W.rangeKs 0 k).map (jmp ns)).getD i 0) m).length : Int) :: ns = PyRb26.order a b c d n := by
  rw [order_due, ← hk]
  have e : ns = ((ln a b c d).order k).map (fun (i : Nat) => (i : Int)) := h.is
  have g : ∀ x, x ∈ (PySem.W.rangeKs 0 k).map (jmp ns) ↔ x ∈ gaps ((ln a b c d).order k) := by
    intro x
    have := jumps_mem (l := (ln a b c d).order k) x
    rw [length_order] at this
    rw [e]
    exact this
  rw [met_count (by rw [List.length_map, PySem.W.rangeKs_length]; exact hm) g]
  rw [← e]
end LsM
namespace LsM
open Rb26 PySem PySem.W PySem.Calls PyProof.Rows
theorem steps_is (a b c d : Int) (n k : Nat) : (⟨a, b, c, d.toNat⟩ : Line).steps n k = stepsL a b c d (n : Int) k := by
  rw [stepsL_def]
  unfold Line.steps
  refine List.map_congr_left ?_
  intro i _
  unfold Line.step
  simp only [hgt_def]
  rw [Int.natCast_add]
theorem stepsL_shift (a b c d n : Int) (k : Nat) : (stepsL a b c d n (k + 1)).drop 1 ++ stepsL a b c d (n + ((k + 1 : Nat) : Int)) 1 = stepsL a b c d (n + 1) (k + 1) := by
  simp only [stepsL_def]
  conv => rhs; rw [List.range_succ, List.map_append]
  rw [List.range_succ_eq_map, List.map_cons, List.drop_succ_cons, List.drop_zero, List.map_map]
  congr 1
  · refine List.map_congr_left ?_
    intro i _
    simp only [Function.comp]
    have e : n + ((i + 1 : Nat) : Int) = n + 1 + (i : Int) := by omega
    rw [e]
  · simp only [List.range_one, List.map_cons, List.map_nil, Int.natCast_zero, Int.add_zero]
    have e : n + ((k + 1 : Nat) : Int) = n + 1 + (k : Int) := by omega
    rw [e]
theorem find_asked_of {a b c d : Int} {w : List Int} (h : PyRb26.find_asked a b c d w = true) : ∃ r : Nat, r < 3000 ∧ stepsL a b c d (r : Int) w.length = w := by
  have h1 : ((Rb26Neutral.slope a b c d && (Rb26Neutral.within (w.length : Int) 1 64 && (w.all Rb26Neutral.whole32 && (decide ((w.length : Int) = (w.length : Int)) && Rb26Neutral.near (first (fun n => (⟨a, b, c, d.toNat⟩ : Line).steps n w.length == w) 3000 0))))) && true && (decide (1 ≤ 1) && decide (1 ≤ 60))) = true := h
  simp only [Bool.and_eq_true] at h1
  obtain ⟨⟨⟨_, _, _, _, hn⟩, _⟩, _⟩ := h1
  obtain ⟨r, hr⟩ := near_some hn
  obtain ⟨_, g2, g3, _⟩ := first_some hr
  refine ⟨r, by omega, ?_⟩
  rw [← steps_is]
  simpa using g3
theorem find_due (a b c d : Int) (w : List Int) : PyRb26.find a b c d w = [orElse (first (fun n => (⟨a, b, c, d.toNat⟩ : Line).steps n w.length == w) 1000001 0) (-1)] := rfl
/-- not found so far; the row there -/
structure FW {a b c d : Int} {w : List Int} (hA : PyRb26.find_asked a b c d w = true) (pre row : List Int) : Prop where
  no : ∀ i : Nat, i < pre.length → stepsL a b c d (i : Int) w.length ≠ w
  row : row = stepsL a b c d (pre.length : Int) w.length
section
variable {a b c d : Int} {w : List Int} {hA : PyRb26.find_asked a b c d w = true}
theorem FW.length {pre row : List Int} (h : FW hA pre row) : row.length = w.length := by
  rw [h.row, stepsL_length]
theorem fw_start {l : List Int} {k : Nat} (h : l = stepsL a b c d 0 k) (hk : k = w.length) : FW hA [] l :=
  ⟨fun i hi => by simp at hi, by rw [h, hk]; rfl⟩
theorem fw_turn {pre row s : List Int} {n m : Int} {k : Nat} (h : FW hA pre row) (hne : ¬ row = w) (hs : s = stepsL a b c d m k) (hk : k = 1) (hm : m = n + (w.length : Int)) (hn : n = 0 + (pre.length : Int)) (hw : 1 ≤ w.length) : FW hA (pre ++ [n]) (row.drop 1 ++ s) := by
  refine ⟨?_, ?_⟩
  · intro i hi
    rw [List.length_append, List.length_singleton] at hi
    rcases (by omega : i < pre.length ∨ i = pre.length) with g | g
    · exact h.no i g
    · subst g
      rw [← h.row]
      exact hne
  · obtain ⟨j, hj⟩ : ∃ j, w.length = j + 1 := ⟨w.length - 1, by omega⟩
    rw [hs, hk, h.row, List.length_append, List.length_singleton]
    have e : m = (pre.length : Int) + ((j + 1 : Nat) : Int) := by omega
    rw [e, hj, stepsL_shift]
    rw [Int.natCast_add]
    rfl
theorem fw_found {pre row : List Int} {n : Int} (h : FW hA pre row) (he : row = w) (hn : n = 0 + (pre.length : Int)) (hl : pre.length < 1000001) : [n] = PyRb26.find a b c d w := by
  rw [find_due, first_intro (r := pre.length) (by omega) (by omega) (by rw [steps_is, ← h.row]; simpa using he) (fun i _ hi => by rw [steps_is]; simpa using h.no i hi)]
  show [n] = [(pre.length : Int)]
  rw [hn, Int.zero_add]
theorem fw_none {pre row : List Int} (h : FW hA pre row) (hl : 3000 ≤ pre.length) : False := by
  obtain ⟨r, hr, e⟩ := find_asked_of hA
  exact h.no r (by omega) e
end
theorem sub_cons {e : Addr × Obj} {l l' : List (Addr × Obj)} (h : ∀ p ∈ l, p ∈ l') : ∀ p ∈ e :: l, p ∈ e :: l' := by
  intro p hp
  rcases List.mem_cons.mp hp with g | g
  · rw [g]; exact List.mem_cons_self
  · exact List.mem_cons_of_mem _ (h p g)
theorem sub_app {l own : List (Addr × Obj)} : ∀ p ∈ l, p ∈ l ++ own := fun _ h => List.mem_append.mpr (.inl h)
theorem mem_in {p q : Addr × Obj} {tl own : List (Addr × Obj)} (h : p ∈ q :: tl) : p ∈ q :: (tl ++ own) := by
  rcases List.mem_cons.mp h with e | e
  · rw [e]; exact List.mem_cons_self
  · exact List.mem_cons_of_mem _ (List.mem_append.mpr (.inl e))
theorem row_list {h₀ h : Heap} {L a : Addr} {q : Addr × Obj} {tl own : List (Addr × Obj)} {vs : List Value} {n : Nat} (hm : (a, listOf vs.toArray n) ∈ q :: tl) (N : News h₀ L h (q :: (tl ++ own))) : h.IsList a vs.toArray :=
  News.isList N (mem_in hm)
/-- the loop: a row that is bound anew in each turn -/
def RowIn (L : List (Addr × Obj)) (v : Value) (ns : List Int) : Prop := ∃ (a : Addr) (vs : List Value) (n : Nat), v = .ref a ∧ (a, listOf vs.toArray n) ∈ L ∧ IntsAre vs ns
section
variable {prog : Program} {w : World} {A : Around} {E : Value → Shared → Prop} {s : Shared} {env : Env} {h₀ : Heap} {x : Str} {body : List Stmt} {Q : Flow → Shared → Prop}
theorem step_mul_d {x y : Int} {t u : Tok} {Q : Value → Shared → Prop} (x0 : -10000000 ≤ x) (x1 : x ≤ 10000000) (y0 : -1000 ≤ y) (y1 : y ≤ 1000) (h : -10000000000 ≤ x * y ∧ x * y ≤ 10000000000 → Q (.int (x * y) s.toks) { s with toks := s.toks + 1 }) :
    wpAny (model prog w) A (binaryOp .Mult (.int x t) (.int y u)) Q E s :=
  PyProof.Rows.mul_int (h (mul_in (p := 10000000) (q := 1000) (by decide) (by decide) x0 x1 y0 y1)) (PySem.IntMulOk.of_bits (bits90 (by omega) (by omega)) (bits90 (by omega) (by omega)))
theorem row_loop {r : Addr} {a₀ b₀ : Int} {t₀ u₀ v₀ : Tok} {n : Nat} {m₀ : Str → Option Value} {l0 : Addr} {vs0 : List Value} {n0 : Nat} {rest : List (Addr × Obj)} {ns0 : List Int} (name : Str) (W : List Int → List Int → Prop)
    (hh : A.handled = none) (hr : IsRange s.heap r a₀ b₀ 1 t₀ u₀ v₀) (hsmall : Builtin.Range.small a₀ b₀ 1 = true) (hsz : Builtin.Range.rangeSize a₀ b₀ 1 = (n : Int)) (F : Fr h₀ env.locals s.heap m₀) (N : News h₀ env.locals s.heap ((l0, listOf vs0.toArray n0) :: rest))
    (hI : IntsAre vs0 ns0) (hk : m₀ name = some (.ref l0)) (hp : W [] ns0)
    (turn : ∀ (a : Addr) (vs : List Value) (nn : Nat) (ns : List Int) tl (pre : List Int) (k : Int) t (u : Str → Option Value) h tk own, k = a₀ + (pre.length : Int) → pre.length < n → KdSep own tl [l0] → OwnOff (tl ++ own) [l0] → (a, listOf vs.toArray nn) ∈ [(l0, listOf vs0.toArray n0)] ++ tl → IntsAre vs ns → W pre ns →
      Fr h₀ env.locals h (fun y => if y = x then some (.int k t) else kstB (fun z => if ([] : List Str).contains z then u z else m₀ z) [(name, Value.ref a)] y) → News h₀ env.locals h ([] ++ ([(l0, listOf vs0.toArray n0)] ++ (tl ++ own))) →
      wpAny (model prog w) A (execs body env) (InvPostG h₀ env.locals (KdS (σ := Value × List Int) (fun _ => []) [(l0, listOf vs0.toArray n0)] (fun c => [(name, c.1)]) (fun L9 c => RowIn L9 c.1 c.2) x [] m₀ (fun pre c => W pre c.2) [l0] (pre ++ [k])) own { s with heap := h, toks := tk } Q) E { s with heap := h, toks := tk })
    (done : ∀ (ns : List Int) tl (u : Str → Option Value) (v : Value) h tk, W (rangeKs a₀ n) ns → Fr h₀ env.locals h (fun y => if y = x then u y else kstB (fun z => if ([] : List Str).contains z then u z else m₀ z) [(name, v)] y) → News h₀ env.locals h ([] ++ ([(l0, listOf vs0.toArray n0)] ++ tl)) → Q .next { s with heap := h, toks := tk }) :
    wpAny (model prog w) A (pyIter (.ref r)) (fun it s₂ => LoopAtV prog w A h₀ env x body Q E it s₂) E s := by
  refine kd_range (σ := Value × List Int) (fun _ => []) [(l0, listOf vs0.toArray n0)] (fun c => [(name, c.1)]) (fun L9 c => RowIn L9 c.1 c.2) [] (fun pre c => W pre c.2) [l0] (Value.ref l0, ns0) hh hr hsmall hsz F N ?_ (fun _ => rfl) ?_ ?_ hp ?_ ?_
  · intro p hp
    simp only [List.nil_append, List.append_nil, List.mem_singleton] at hp
    rw [hp]
    exact List.mem_cons_self
  · exact ⟨l0, vs0, n0, rfl, List.mem_append.mpr (.inl List.mem_cons_self), hI⟩
  · intro p hp
    rw [List.mem_singleton.mp hp]
    exact hk
  · rintro ⟨v, ns⟩ tl pre k t u h tk own h1 h2 h3 h4 ⟨a, vs, nn, e, hm, hi⟩ h6 h7 h8
    dsimp only at e
    subst e
    exact turn a vs nn ns tl pre k t u h tk own h1 h2 h3 h4 hm hi h6 h7 h8
  · rintro ⟨v, ns⟩ tl u h tk h1 _ h3 h4 h5
    exact done ns tl u v h tk h3 h4 h5
theorem row_end {m₀ m' : Str → Option Value} {l0 D a1 a2 : Addr} {o1 o2 : Obj} {vs0 ws : List Value} {n0 nn tk : Nat} {tl own : List (Addr × Obj)} {ns : List Int} {name : Str} {W : List Int → List Int → Prop} {pre : List Int} {L : Addr} {s₁ : Shared} {h' : Heap}
    (hS : KdSep own tl [l0]) (F : Fr h₀ L h' m') (N : News h₀ L h' ((D, listOf ws.toArray nn) :: (a1, o1) :: (a2, o2) :: (l0, listOf vs0.toArray n0) :: (tl ++ own)))
    (l : a1 < D ∧ a2 < D ∧ l0 < D ∧ AllLt D (tl ++ own)) (hI : IntsAre ws ns) (hk : m' name = some (.ref D)) (hr : ∀ z, z ≠ x → (∀ p ∈ [(name, Value.ref D)], z ≠ p.1) → ([] : List Str).contains z = false → m' z = m₀ z) (hp : W pre ns) :
    InvEndG h₀ L (KdS (σ := Value × List Int) (fun _ => []) [(l0, listOf vs0.toArray n0)] (fun c => [(name, c.1)]) (fun L9 c => RowIn L9 c.1 c.2) x [] m₀ (fun pre c => W pre c.2) [l0] pre) own s₁ { s₁ with heap := h', toks := tk } := by
  refine kd_end (σ := Value × List Int) (Value.ref D, ns) [(D, listOf ws.toArray nn)] (tl := tl) hS F N ?_ ?_ rfl ?_ ?_ ?_ hr ?_ hp
  · intro p hp
    simp only [List.nil_append, List.cons_append, List.mem_cons] at hp
    rcases hp with e | e | e
    · rw [e]; simp
    · rw [e]; simp
    · simp [e]
  · intro p hp
    simp [hp]
  · intro q hq b hb
    rw [List.mem_singleton.mp hq, List.mem_singleton.mp hb]
    exact Nat.ne_of_lt l.2.2.1
  · intro q hq p hp
    rw [List.mem_singleton.mp hq]
    exact Nat.ne_of_lt (kst_ltOf l.2.2.2 p (List.mem_append.mpr (.inr hp)))
  · intro p hp
    rw [List.mem_singleton.mp hp]
    exact hk
  · exact ⟨D, ws, nn, rfl, by simp, hI⟩
end
end LsM
namespace LsM
open Rb26 PySem PySem.W PySem.Calls PyProof.Rows
/-! ### put in at a place -/
def putAt {α : Type} (l : List α) (s : Nat) (y : α) : List α := l.take s ++ y :: l.drop s
theorem putAt_length {α : Type} (l : List α) (s : Nat) (y : α) : (putAt l s y).length = l.length + 1 := by
  unfold putAt
  rw [List.length_append, List.length_cons, List.length_take, List.length_drop]
  omega
theorem putAt_get {α : Type} {l : List α} {s k : Nat} {y z : α} (hs : s ≤ l.length) (h : (putAt l s y)[k]? = some z) : (k < s ∧ l[k]? = some z) ∨ (k = s ∧ z = y) ∨ (s < k ∧ l[k - 1]? = some z) := by
  unfold putAt at h
  rcases (by omega : k < s ∨ k = s ∨ s < k) with g | g | g
  · rw [List.getElem?_append_left (by rw [List.length_take]; omega), List.getElem?_take, if_pos g] at h
    exact .inl ⟨g, h⟩
  · subst g
    rw [List.getElem?_append_right (by rw [List.length_take]; omega), List.length_take, Nat.min_eq_left hs, Nat.sub_self] at h
    simp at h
    exact .inr (.inl ⟨rfl, h.symm⟩)
  · rw [List.getElem?_append_right (by rw [List.length_take]; omega), List.length_take, Nat.min_eq_left hs] at h
    obtain ⟨t, ht⟩ : ∃ t, k - s = t + 1 := ⟨k - s - 1, by omega⟩
    rw [ht, List.getElem?_cons_succ, List.getElem?_drop] at h
    have e : s + t = k - 1 := by omega
    rw [e] at h
    exact .inr (.inr ⟨g, h⟩)
theorem putAt_lt {α : Type} {l : List α} {s k : Nat} {y : α} (hs : s ≤ l.length) (g : k < s) : (putAt l s y)[k]? = l[k]? := by
  unfold putAt
  rw [List.getElem?_append_left (by rw [List.length_take]; omega), List.getElem?_take, if_pos g]
theorem putAt_eq {α : Type} {l : List α} {s : Nat} {y : α} (hs : s ≤ l.length) : (putAt l s y)[s]? = some y := by
  unfold putAt
  rw [List.getElem?_append_right (by rw [List.length_take]; omega), List.length_take, Nat.min_eq_left hs, Nat.sub_self]
  rfl
theorem putAt_gt {α : Type} {l : List α} {s k : Nat} {y : α} (hs : s ≤ l.length) (g : s < k) : (putAt l s y)[k]? = l[k - 1]? := by
  unfold putAt
  rw [List.getElem?_append_right (by rw [List.length_take]; omega), List.length_take, Nat.min_eq_left hs]
  obtain ⟨t, ht⟩ : ∃ t, k - s = t + 1 := ⟨k - s - 1, by omega⟩
  rw [ht, List.getElem?_cons_succ, List.getElem?_drop]
  have e : s + t = k - 1 := by omega
  rw [e]
theorem ints_put : ∀ {vs : List Value} {ns : List Int} (s : Nat) (x : Int) (t : Tok), IntsAre vs ns → IntsAre (putAt vs s (.int x t)) (putAt ns s x)
  | vs, ns, 0, x, t, h => by
    show IntsAre (Value.int x t :: vs) (x :: ns)
    exact .cons x t h
  | [], ns, s + 1, x, t, h => by
    cases h
    show IntsAre [Value.int x t] [x]
    exact .cons x t .nil
  | v :: vs, ns, s + 1, x, t, h => by
    cases h with
    | cons z u h =>
      have := ints_put s x t h
      exact .cons z u this
theorem kl_put {l : List Value} {x : Int} {y : Value} (h0 : 0 ≤ x) (h1 : x ≤ (l.length : Int)) : kl_ins l x y = putAt l x.toNat y := by
  unfold kl_ins putAt
  have e : (if x < 0 then (x + (l.length : Int)).toNat else min x.toNat l.length) = x.toNat := by
    rw [if_neg (by omega)]
    omega
  rw [e]
/-! ### the pairs -/
def PartsIn (a b c d : Int) (L9 : List (Addr × Obj)) (us : List Value) (ns : List Int) : Prop :=
  us.length = ns.length ∧ ∀ (k : Nat) (j : Int), ns[k]? = some j → ∃ (D : Addr) (t1 t2 : Tok), us[k]? = some (.ref D) ∧ (D, pairOf (offX a b c d (hgt a b c d j) j) (offY a b c d (hgt a b c d j) j) t1 t2) ∈ L9
theorem parts_nil {a b c d : Int} {L9 : List (Addr × Obj)} : PartsIn a b c d L9 [] [] := ⟨rfl, fun k j h => by simp at h⟩
theorem parts_put {a b c d at_ : Int} {tl : List (Addr × Obj)} {us : List Value} {ns : List Int} {D : Addr} {t1 t2 : Tok} {s : Nat} (h : PartsIn a b c d tl us ns) (hs : s ≤ ns.length) :
    PartsIn a b c d ((D, pairOf (offX a b c d (hgt a b c d at_) at_) (offY a b c d (hgt a b c d at_) at_) t1 t2) :: tl) (putAt us s (.ref D)) (putAt ns s at_) := by
  refine ⟨by rw [putAt_length, putAt_length, h.1], ?_⟩
  intro k j hj
  rcases putAt_get hs hj with ⟨g, e⟩ | ⟨g, e⟩ | ⟨g, e⟩
  · obtain ⟨D', x1, x2, e1, e2⟩ := h.2 k j e
    exact ⟨D', x1, x2, by rw [putAt_lt (by rw [h.1]; exact hs) g]; exact e1, List.mem_cons_of_mem _ e2⟩
  · subst g
    subst e
    exact ⟨D, t1, t2, putAt_eq (by rw [h.1]; exact hs), List.mem_cons_self⟩
  · obtain ⟨D', x1, x2, e1, e2⟩ := h.2 (k - 1) j e
    exact ⟨D', x1, x2, by rw [putAt_gt (by rw [h.1]; exact hs) g]; exact e1, List.mem_cons_of_mem _ e2⟩
/-! ### the loop -/
structure OSt where
  us : List Value
  vs : List Value
  k1 : Nat
  k2 : Nat
  ns : List Int
def OrdJ (a b c d : Int) (W : Nat → List Int → Prop) (l1 l2 : Addr) (rest : List (Addr × Obj)) (x : Str) (m₀ : Str → Option Value) (pre : List Int) : (Str → Option Value) → List (Addr × Obj) → Prop :=
  KdS (σ := OSt) (fun z => [(l1, listOf z.us.toArray z.k1), (l2, listOf z.vs.toArray z.k2)]) rest (fun _ => []) (fun L9 z => PartsIn a b c d L9 z.us z.ns ∧ IntsAre z.vs z.ns) x [Str.ofString "part", Str.ofString "spot"] m₀ (fun (pre : List Int) z => W pre.length z.ns) (l1 :: l2 :: rest.map (·.1)) pre
theorem off_two {l1 l2 : Addr} {rest : List (Addr × Obj)} (h1 : ∀ p ∈ rest, p.1 ≠ l1) (h2 : ∀ p ∈ rest, p.1 ≠ l2) : OwnOff rest [l1, l2] := by
  intro p hp z hz
  simp only [List.mem_cons, List.not_mem_nil, or_false] at hz
  rcases hz with e | e
  · rw [e]; exact h1 p hp
  · rw [e]; exact h2 p hp
theorem parts_mono {a b c d : Int} {L9 L8 : List (Addr × Obj)} {us : List Value} {ns : List Int} (hs : ∀ p ∈ L9, p ∈ L8) (h : PartsIn a b c d L9 us ns) : PartsIn a b c d L8 us ns := by
  refine ⟨h.1, fun k j hj => ?_⟩
  obtain ⟨D, t1, t2, e1, e2⟩ := h.2 k j hj
  exact ⟨D, t1, t2, e1, hs _ e2⟩
section
variable {prog : Program} {w : World} {A : Around} {E : Value → Shared → Prop} {s : Shared} {env : Env} {h₀ : Heap} {x : Str} {body : List Stmt} {Q : Flow → Shared → Prop}
theorem ord_loop {r : Addr} {a₀ b₀ : Int} {t₀ u₀ v₀ : Tok} {n : Nat} {m₀ : Str → Option Value} {l1 l2 : Addr} {n1 n2 : Nat} {rest : List (Addr × Obj)} {a b c d nn : Int} (hA : PyRb26.order_asked a b c d nn = true)
    (hh : A.handled = none) (hr : IsRange s.heap r a₀ b₀ 1 t₀ u₀ v₀) (hsmall : Builtin.Range.small a₀ b₀ 1 = true) (hsz : Builtin.Range.rangeSize a₀ b₀ 1 = (n : Int)) (F : Fr h₀ env.locals s.heap m₀) (N : News h₀ env.locals s.heap ((l1, listOf #[] n1) :: (l2, listOf #[] n2) :: rest)) (hO : OwnOff rest [l1, l2])
    (turn : ∀ (us vs : List Value) (k1 k2 : Nat) (ns : List Int) tl (pre : List Int) (k : Int) t (u : Str → Option Value) h tk own, k = a₀ + (pre.length : Int) → pre.length < n → KdSep own tl (l1 :: l2 :: rest.map (·.1)) → OwnOff (rest ++ (tl ++ own)) [l1, l2] → PartsIn a b c d (rest ++ tl) us ns → IntsAre vs ns → OW hA pre.length ns →
      Fr h₀ env.locals h (fun y => if y = x then some (.int k t) else if [Str.ofString "part", Str.ofString "spot"].contains y then u y else m₀ y) → News h₀ env.locals h ((l1, listOf us.toArray k1) :: (l2, listOf vs.toArray k2) :: (rest ++ (tl ++ own))) →
      wpAny (model prog w) A (execs body env) (InvPostG h₀ env.locals (OrdJ a b c d (OW hA) l1 l2 rest x m₀ (pre ++ [k])) own { s with heap := h, toks := tk } Q) E { s with heap := h, toks := tk })
    (done : ∀ (us vs : List Value) (k1 k2 : Nat) (ns : List Int) (u : Str → Option Value) h tk, IntsAre vs ns → OW hA n ns → Fr h₀ env.locals h (fun y => if y = x then u y else if [Str.ofString "part", Str.ofString "spot"].contains y then u y else m₀ y) → News h₀ env.locals h ((l1, listOf us.toArray k1) :: (l2, listOf vs.toArray k2) :: rest) → Q .next { s with heap := h, toks := tk }) :
    wpAny (model prog w) A (pyIter (.ref r)) (fun it s₂ => LoopAtV prog w A h₀ env x body Q E it s₂) E s := by
  have off2 : ∀ {q : List (Addr × Obj)}, OwnOff q (l1 :: l2 :: rest.map (·.1)) → OwnOff (rest ++ q) [l1, l2] := by
    intro q hq p hp z hz
    rcases List.mem_append.mp hp with e | e
    · exact hO p e z hz
    · refine hq p e z ?_
      simp only [List.mem_cons, List.not_mem_nil, or_false] at hz
      rcases hz with e' | e'
      · rw [e']; exact List.mem_cons_self
      · rw [e']; exact List.mem_cons_of_mem _ List.mem_cons_self
  refine kd_range (σ := OSt) (fun z => [(l1, listOf z.us.toArray z.k1), (l2, listOf z.vs.toArray z.k2)]) rest (fun _ => []) (fun L9 z => PartsIn a b c d L9 z.us z.ns ∧ IntsAre z.vs z.ns) [Str.ofString "part", Str.ofString "spot"] (fun (pre : List Int) z => OW hA pre.length z.ns) (l1 :: l2 :: rest.map (·.1)) ⟨[], [], n1, n2, []⟩ hh hr hsmall hsz F N ?_ (fun _ => rfl) ⟨parts_nil, .nil⟩ (fun p hp => (nomatch hp)) ow_start ?_ ?_
  · intro p hp
    rw [List.append_nil] at hp
    exact hp
  · rintro ⟨us, vs, k1, k2, ns⟩ tl pre k t u h tk own h1 h2 h3 h4 ⟨h5, h5'⟩ h6 h7 h8
    exact turn us vs k1 k2 ns tl pre k t u h tk own h1 h2 h3 (off2 h4) h5 h5' h6 h7 h8
  · rintro ⟨us, vs, k1, k2, ns⟩ tl u h tk _ ⟨_, h5⟩ h6 h7 h8
    rw [rangeKs_length] at h6
    refine done us vs k1 k2 ns u h tk h5 h6 h7 (fun p hp => h8 p ?_)
    rcases List.mem_cons.mp hp with e | e
    · exact List.mem_append.mpr (.inl (by rw [e]; exact List.mem_cons_self))
    · rcases List.mem_cons.mp e with e | e
      · exact List.mem_append.mpr (.inl (by rw [e]; exact List.mem_cons_of_mem _ List.mem_cons_self))
      · exact List.mem_append.mpr (.inr (List.mem_append.mpr (.inl e)))
theorem ord_end {a b c d : Int} {W : Nat → List Int → Prop} {m₀ m' : Str → Option Value} {l1 l2 D : Addr} {rest : List (Addr × Obj)} {X Y : Int} {t1 t2 : Tok} {us vs : List Value} {k1 k2 tk : Nat} {tl own : List (Addr × Obj)} {ns : List Int} {pre : List Int} {L : Addr} {s₁ : Shared} {h' : Heap} {o1 o2 : Obj}
    (hS : KdSep own tl (l1 :: l2 :: rest.map (·.1))) (F : Fr h₀ L h' m') (N : News h₀ L h' ((D, pairOf X Y t1 t2) :: (l1, listOf us.toArray k1) :: (l2, listOf vs.toArray k2) :: (rest ++ (tl ++ own))))
    (l : AllLt D ((l1, o1) :: (l2, o2) :: (rest ++ (tl ++ own)))) (hP : PartsIn a b c d ((D, pairOf X Y t1 t2) :: (rest ++ tl)) us ns) (hI : IntsAre vs ns)
    (hr : ∀ z, z ≠ x → (∀ p ∈ ([] : List (Str × Value)), z ≠ p.1) → [Str.ofString "part", Str.ofString "spot"].contains z = false → m' z = m₀ z) (hp : W pre.length ns) :
    InvEndG h₀ L (OrdJ a b c d W l1 l2 rest x m₀ pre) own s₁ { s₁ with heap := h', toks := tk } := by
  refine kd_end (σ := OSt) ⟨us, vs, k1, k2, ns⟩ [(D, pairOf X Y t1 t2)] (tl := tl) hS F N ?_ ?_ rfl ?_ ?_ (fun p hp => (nomatch hp)) hr ⟨parts_mono ?_ hP, hI⟩ hp
  · intro p hp
    simp only [List.nil_append, List.cons_append, List.mem_cons, List.mem_append] at hp ⊢
    rcases hp with e | e | e | e | e
    · exact .inr (.inl e)
    · exact .inr (.inr (.inl e))
    · exact .inr (.inr (.inr (.inl e)))
    · exact .inl e
    · exact .inr (.inr (.inr (.inr (.inl e))))
  · intro p hp
    simp [hp]
  · intro q hq z hz
    rw [List.mem_singleton.mp hq]
    simp only [List.mem_cons] at hz
    rcases hz with e | e | e
    · rw [e]; exact Nat.ne_of_lt l.1
    · rw [e]; exact Nat.ne_of_lt l.2.1
    · obtain ⟨p, hp, rfl⟩ := List.mem_map.mp e
      exact Nat.ne_of_lt (kst_ltOf l.2.2 p (List.mem_append.mpr (.inl hp)))
  · intro q hq p hp
    rw [List.mem_singleton.mp hq]
    exact Nat.ne_of_lt (kst_ltOf l.2.2 p (List.mem_append.mpr (.inr (List.mem_append.mpr (.inr hp)))))
  · intro p hp
    simp only [List.nil_append, List.cons_append, List.mem_cons, List.mem_append] at hp ⊢
    rcases hp with e | e | e
    · exact .inr (.inl e)
    · exact .inl e
    · exact .inr (.inr e)
end
/-! ### steps -/
section
variable {prog : Program} {w : World} {A : Around} {E : Value → Shared → Prop} {s : Shared} {h₀ : Heap} {L : Addr} {m : Str → Option Value} {news : List (Addr × Obj)}
variable {a b c d n : Int} {hA : PyRb26.order_asked a b c d n = true}
theorem ow_turn0 {pre : List Int} {at_ spot : Int} {ns : List Int} (h : OW hA pre.length ns) (hw : WI hA at_ spot ns) (hk : at_ = 0 + (pre.length : Int)) (hs : ¬ spot > 0) : OW hA (pre ++ [at_]).length (putAt ns spot.toNat at_) := by
  rw [List.length_append, List.length_singleton]
  exact wi_end h hw (by omega) (fun g => absurd g hs)
theorem ow_turn1 {pre : List Int} {at_ spot j : Int} {ns : List Int} (h : OW hA pre.length ns) (hw : WI hA at_ spot ns) (hk : at_ = 0 + (pre.length : Int)) (hj : ns[(spot - 1).toNat]? = some j) (hl : ¬ offX a b c d (hgt a b c d at_) at_ - offX a b c d (hgt a b c d j) j + times (offY a b c d (hgt a b c d at_) at_ - offY a b c d (hgt a b c d j) j) d < 0) : OW hA (pre ++ [at_]).length (putAt ns spot.toNat at_) := by
  rw [List.length_append, List.length_singleton]
  refine wi_end h hw (by omega) (fun _ i hi g => ?_)
  rw [hj] at hi
  cases hi
  exact hl g
theorem parts_putW {at_ spot : Int} {tl : List (Addr × Obj)} {us : List Value} {ns : List Int} {D : Addr} {t1 t2 : Tok} (hw : WI hA at_ spot ns) (h : PartsIn a b c d tl us ns) :
    PartsIn a b c d ((D, pairOf (offX a b c d (hgt a b c d at_) at_) (offY a b c d (hgt a b c d at_) at_) t1 t2) :: tl) (putAt us spot.toNat (.ref D)) (putAt ns spot.toNat at_) := by
  have h0 := hw.lo
  have h1 := hw.hi
  exact parts_put h (by omega)
theorem sub3 {e1 e2 e3 : Addr × Obj} {rest tl own : List (Addr × Obj)} : ∀ p ∈ rest ++ tl, p ∈ e1 :: e2 :: e3 :: (rest ++ (tl ++ own)) := by
  intro p hp
  refine List.mem_cons_of_mem _ (List.mem_cons_of_mem _ (List.mem_cons_of_mem _ ?_))
  rcases List.mem_append.mp hp with e | e
  · exact List.mem_append.mpr (.inl e)
  · exact List.mem_append.mpr (.inr (List.mem_append.mpr (.inl e)))
theorem part_item {value slice : PySem.Expr} {l : Addr} {L9 : List (Addr × Obj)} {us : List Value} {ns : List Int} {kk n1 : Nat} {at_ spot : Int} {u : Tok} {Q : Value → Shared → Prop} (hw : WI hA at_ spot ns) (hs : spot > 0) (hW : OW hA kk ns) (hP : PartsIn a b c d L9 us ns) (N : News h₀ L s.heap news) (hm : (l, listOf us.toArray n1) ∈ news) (hkk : kk ≤ 1000) (b0 : -1000 ≤ b) (b1 : b ≤ 1000) (hL : ∀ p ∈ L9, p ∈ news)
    (h : ∀ (D : Addr) (t1 t2 : Tok) (j : Int), ns[(spot - 1).toNat]? = some j → (D, pairOf (offX a b c d (hgt a b c d j) j) (offY a b c d (hgt a b c d j) j) t1 t2) ∈ news → -1000000 ≤ offY a b c d (hgt a b c d j) j ∧ offY a b c d (hgt a b c d j) j ≤ 1000000 → Q (.ref D) s)
    (hsub : subscripted slice false (.ref l) (.int (spot - 1) u) = operate [.ref l, .int (spot - 1) u] (getItem (.ref l) (.int (spot - 1) u)) := by with_unfolding_all rfl) :
    wpAny (model prog w) A (subscriptTail value slice (.ref l) (.int (spot - 1) u)) Q E s := by
  have h1 := hw.hi
  have h2 := hW.length
  have hlt : (spot - 1).toNat < ns.length := by omega
  obtain ⟨D, t1, t2, e1, e2⟩ := hP.2 (spot - 1).toNat ns[(spot - 1).toNat] (List.getElem?_eq_getElem hlt)
  obtain ⟨j, ej, hj, _⟩ := hW.get (List.getElem?_eq_getElem hlt)
  have hl : s.heap.IsList l us.toArray := ⟨_, (N _ hm).1, rfl, n1, rfl⟩
  exact tail_any hl.typeIs slot_list_getitem.lookup (wpAny_getItem_list hl (by omega) (by omega) (by simpa using e1) (h D t1 t2 _ (List.getElem?_eq_getElem hlt) (hL _ e2) (offY_in b0 b1 (by omega) (by omega)))) hsub
theorem put_placed {D l1 l2 : Addr} {o o1 : Obj} {vs : List Value} {k2 kk : Nat} {rest : List (Addr × Obj)} {at_ spot : Int} {u : Tok} {y : Value} {ns : List Int} {Q : Value → Shared → Prop} (hw : WI hA at_ spot ns) (hW : OW hA kk ns) (hI : IntsAre vs ns) (F : Fr h₀ L s.heap m) (N : News h₀ L s.heap ((D, o) :: (l1, o1) :: (l2, listOf vs.toArray k2) :: rest))
    (hD : @Ne Nat D l2) (hne : @Ne Nat l1 l2) (hO : OwnOff rest [l1, l2]) (hkk : kk ≤ 1000)
    (h : ∀ h', Fr h₀ L h' m → News h₀ L h' ((D, o) :: (l1, o1) :: (l2, listOf (putAt vs spot.toNat y).toArray (k2 + 1)) :: rest) → Q .none { s with heap := h' }) :
    wpAny (model prog w) A (call (.builtin "list.insert") [.ref l2, .int spot u, y]) Q E s := by
  have h0 := hw.lo
  have h1 := hw.hi
  have h2 := hW.length
  have h3 := hI.length
  refine kl_insert (its := vs.toArray) (l := putAt vs spot.toNat y) F N ?_ (kl_put h0 (by show spot ≤ (vs.length : Int); omega)) (.tail hD (.tail hne (.head (hO.ne (by simp))))) ?_ h
  · unfold Builtin.List.listFitsIndex
    simp only [Bool.and_eq_true, decide_eq_true_eq]
    omega
  · show vs.length ≤ sizeLine
    rw [PySem.sizeLine_eq]
    omega
theorem put_parts {D l1 l2 : Addr} {o o2 : Obj} {us : List Value} {k1 kk : Nat} {rest L9 : List (Addr × Obj)} {at_ spot : Int} {u : Tok} {y : Value} {ns : List Int} {Q : Value → Shared → Prop} (hw : WI hA at_ spot ns) (hW : OW hA kk ns) (hP : PartsIn a b c d L9 us ns) (F : Fr h₀ L s.heap m) (N : News h₀ L s.heap ((D, o) :: (l1, listOf us.toArray k1) :: (l2, o2) :: rest))
    (hD : @Ne Nat D l1) (hne : @Ne Nat l1 l2) (hO : OwnOff rest [l1, l2]) (hkk : kk ≤ 1000)
    (h : ∀ h', Fr h₀ L h' m → News h₀ L h' ((D, o) :: (l1, listOf (putAt us spot.toNat y).toArray (k1 + 1)) :: (l2, o2) :: rest) → Q .none { s with heap := h' }) :
    wpAny (model prog w) A (call (.builtin "list.insert") [.ref l1, .int spot u, y]) Q E s := by
  have h0 := hw.lo
  have h1 := hw.hi
  have h2 := hW.length
  have h3 := hP.1
  refine kl_insert (its := us.toArray) (l := putAt us spot.toNat y) F N ?_ (kl_put h0 (by show spot ≤ (us.length : Int); omega)) (.tail hD (.head ?_)) ?_ h
  · unfold Builtin.List.listFitsIndex
    simp only [Bool.and_eq_true, decide_eq_true_eq]
    omega
  · intro p hp
    rcases List.mem_cons.mp hp with e | e
    · rw [e]; exact Ne.symm hne
    · exact hO.ne (by simp) p e
  · show us.length ≤ sizeLine
    rw [PySem.sizeLine_eq]
    omega
theorem int_item {value slice : PySem.Expr} {l : Addr} {vs : List Value} {ns : List Int} {n1 : Nat} {k : Int} {u : Tok} {Q : Value → Shared → Prop} (hI : IntsAre vs ns) (N : News h₀ L s.heap news) (hm : (l, listOf vs.toArray n1) ∈ news) (h0 : 0 ≤ k) (h1 : k < (ns.length : Int)) (h2 : ns.length ≤ 1000)
    (h : ∀ t, Q (.int (ns.getD k.toNat 0) t) s)
    (hsub : subscripted slice false (.ref l) (.int k u) = operate [.ref l, .int k u] (getItem (.ref l) (.int k u)) := by with_unfolding_all rfl) :
    wpAny (model prog w) A (subscriptTail value slice (.ref l) (.int k u)) Q E s := by
  have hl : s.heap.IsList l vs.toArray := ⟨_, (N _ hm).1, rfl, n1, rfl⟩
  have hv := hI.length
  have hlt : k.toNat < vs.length := by omega
  obtain ⟨t, e⟩ := IntsAre.int_at hI k.toNat _ (List.getElem?_eq_getElem hlt)
  exact tail_any hl.typeIs slot_list_getitem.lookup (wpAny_getItem_list hl h0 (by omega) (by rw [List.getElem?_toArray, List.getElem?_eq_getElem hlt, e]) (h t)) hsub
theorem back_item {value slice : PySem.Expr} {l : Addr} {vs : List Value} {ns : List Int} {n1 : Nat} {k : Int} {u : Tok} {Q : Value → Shared → Prop} (hI : IntsAre vs ns) (N : News h₀ L s.heap news) (hm : (l, listOf vs.toArray n1) ∈ news) (h0 : 0 ≤ k) (h1 : k < (ns.length : Int)) (h2 : ns.length ≤ 1000)
    (h : ∀ t, Q (.int (ns.getD (if k = 0 then ns.length - 1 else (k - 1).toNat) 0) t) s)
    (hsub : subscripted slice false (.ref l) (.int (k - 1) u) = operate [.ref l, .int (k - 1) u] (getItem (.ref l) (.int (k - 1) u)) := by with_unfolding_all rfl) :
    wpAny (model prog w) A (subscriptTail value slice (.ref l) (.int (k - 1) u)) Q E s := by
  have hl : s.heap.IsList l vs.toArray := ⟨_, (N _ hm).1, rfl, n1, rfl⟩
  have hv := hI.length
  by_cases g : k = 0
  · subst g
    rw [if_pos rfl] at h
    have hlt : ns.length - 1 < vs.length := by omega
    obtain ⟨t, e⟩ := IntsAre.int_at hI (ns.length - 1) _ (List.getElem?_eq_getElem hlt)
    refine tail_any hl.typeIs slot_list_getitem.lookup (wpAny_getItem_list_neg hl (by omega) (by rw [List.size_toArray]; omega) (by omega) ?_ (h t)) hsub
    have e3 : ((0 : Int) - 1 + ((vs.toArray.size : Nat) : Int)).toNat = ns.length - 1 := by rw [List.size_toArray]; omega
    rw [e3, List.getElem?_toArray, List.getElem?_eq_getElem hlt, e]
  · rw [if_neg g] at h
    exact int_item hI N hm (by omega) (by omega) h2 h hsub
theorem jmp_is {ns : List Int} {k : Int} : jmp ns k = ns.getD k.toNat 0 - ns.getD (if k = 0 then ns.length - 1 else (k - 1).toNat) 0 := rfl
/-- a set of the numbers of a new list -/
theorem set_new {l : Addr} {vs : List Value} {js : List Int} {n1 : Nat} {Q : Value → Shared → Prop} (F : Fr h₀ L s.heap m) (N : News h₀ L s.heap news) (hm : (l, listOf vs.toArray n1) ∈ news) (hI : IntsAre vs js) (hh : A.handled = none) (hb : js.length ≤ 1000)
    (h : ∀ (D : Addr) (h' : Heap) (tk : Nat) (o : Obj), Fr h₀ L h' m → News h₀ L h' ((D, o) :: news) → o.SetObjOf (intKind prog w) (fun k' => (firstMet (fun i => js.getD i 0) js.length).any (· == k')) (firstMet (fun i => js.getD i 0) js.length).length → (firstMet (fun i => js.getD i 0) js.length).length ≤ 1000 → AllLt D news →
      Q (.ref D) { s with heap := h', toks := tk }) :
    wpAny (model prog w) A (call (.type "set") [.ref l]) Q E s := by
  have hl : s.heap.IsList l vs.toArray := ⟨_, (N _ hm).1, rfl, n1, rfl⟩
  have hv := hI.length
  have zb : scanBound = 4096 := rfl
  refine call_set_list (items := vs.toArray) (ns := js) hh hl (by simpa using hI) (by rw [List.size_toArray, zb]; omega) ?_
  intro h' tk hS hk
  have ez : vs.toArray.size = js.length := by rw [List.size_toArray]; exact hv
  rw [ez] at hS
  obtain ⟨o, ho, hso⟩ := hS.objOf
  have hL : L < s.heap.objs.size := F.ns.lt
  have hn : h₀.get? s.heap.objs.size = none := next_is_new F
  refine h _ h' tk o ⟨F.ns.at' fun o' e => hk L o' hL e, fun z o' e => hk z o' (Heap.lt_size (F.keep z o' e)) (F.keep z o' e), F.above⟩ ?_ hso (Nat.le_trans (firstMet_length_le _ _) hb) (allLt_of fun p hp => Heap.lt_size (N p hp).1)
  intro p hp
  rcases List.mem_cons.mp hp with e | e
  · subst e
    exact ⟨ho, Nat.ne_of_gt hL, hn⟩
  · exact ⟨hk _ _ (Heap.lt_size (N p e).1) (N p e).1, (N p e).2⟩
end
theorem ow_end2 {a b c d n : Int} {hA : PyRb26.order_asked a b c d n = true} {k : Nat} {ns : List Int} (h : OW hA k ns) (hk : k = n.toNat) :
    [((firstMet (fun i => (List.map (fun (k' : Int) => ns.getD k'.toNat 0 - ns.getD (if k' = 0 then ns.length - 1 else (k' - 1).toNat) 0) (rangeKs 0 k)).getD i 0) (List.map (fun (k' : Int) => ns.getD k'.toNat 0 - ns.getD (if k' = 0 then ns.length - 1 else (k' - 1).toNat) 0) (rangeKs 0 k)).length).length : Int)] ++ ns = PyRb26.order a b c d n :=
  ow_end h hk (by rw [List.length_map, rangeKs_length])
end LsM
namespace LsM
open PySem PySem.W PySem.Calls PyProof.Rows
theorem bounds10 {a b c d m : Int} (h : PySem.Challenge.rw_linesteps_s10_order.pre [.int a, .int b, .int c, .int d, .int m] = true) :
    PyRb26.order_asked a b c d m = true ∧ (-1000 ≤ a ∧ a ≤ 1000) ∧ (-1000 ≤ b ∧ b ≤ 1000) ∧ (1 ≤ c ∧ c ≤ 1000) ∧ (0 ≤ d ∧ d ≤ 1000) ∧ (1 ≤ m ∧ m ≤ 100) := by
  obtain ⟨e, hb⟩ := dec5 (pre_dec h)
  exact ⟨pre_asked h e, hb⟩
theorem hgt_fact10 (a b c d n : Int) : (-1000 ≤ a ∧ a ≤ 1000) ∧ (-1000 ≤ b ∧ b ≤ 1000) ∧ (1 ≤ c ∧ c ≤ 1000) ∧ (0 ≤ d ∧ d ≤ 1000) ∧ (0 ≤ n ∧ n ≤ 1000) → -10000000000000 ≤ hgt a b c d n ∧ hgt a b c d n ≤ 10000000000000 :=
  fun ⟨h1, h2, h3, h4, h5⟩ => hgt_fact a b c d n ⟨h1, h2, h3, h4, by omega, by omega⟩
end LsM
open PySem PySem.W PyProof.Rows
local macro_rules | `(tactic| size_fits) => `(tactic| (with_reducible exact LsM.fits (by assumption) (by omega)))
local macro_rules | `(tactic| kst_facts) => `(tactic| (dsimp only; first | with_reducible exact PyProof.Rows.IntsAre.nil | with_reducible assumption | with_reducible exact True.intro | with_reducible exact PyProof.Rows.IntsAre.append (by with_reducible assumption) (.cons _ _ .nil)))
local macro_rules | `(tactic| kst_in) => `(tactic| ((try dsimp only); first | (with_reducible exact fun _ h9 => h9) | ((repeat (with_reducible refine LsM.sub_cons ?_)); first | (with_reducible exact fun _ h9 => h9) | (with_reducible exact LsM.sub_app) | (with_reducible exact List.forall_mem_nil _))))
local macro_rules | `(tactic| walk_at "subscriptTail") => `(tactic| (k_here; (rename LCg.NsObj _ _ => hNs9); first
  | ((refine' LsM.back_item ?k1 ?k2 ?k3 ?k4 ?k5 ?k6 ?_ ?k10); (case k1 => with_reducible assumption); (case k2 => k_asm); (case k3 => k_memK); (case k4 => omega); (case k5 => omega); (case k6 => omega); (case k10 => with_unfolding_all rfl); intro t9')
  | ((refine' LsM.int_item ?k1 ?k2 ?k3 ?k4 ?k5 ?k6 ?_ ?k10); (case k1 => with_reducible assumption); (case k2 => k_asm); (case k3 => k_memK); (case k4 => omega); (case k5 => omega); (case k6 => omega); (case k10 => with_unfolding_all rfl); intro t9')))
local macro_rules | `(tactic| walk_at "subscriptTail") => `(tactic| (k_here; (with_reducible show wpAny _ _ (subscriptTail _ _ (Value.ref _) (Value.int (_ - 1) _)) _ _ _); (refine' LsM.part_item ?k1 ?k2 ?k3 ?k4 ?k5 ?k6 ?k7 ?k8 ?k9 ?k11 ?_ ?k10); (case k1 => with_reducible assumption); (case k2 => omega); (case k3 => with_reducible assumption); (case k4 => with_reducible assumption); (case k5 => k_asm); (case k6 => k_memK); (case k7 => omega); (case k8 => omega); (case k9 => omega); (case k11 => exact LsM.sub3); (case k10 => with_unfolding_all rfl); intro D' t1' t2' j' hj' hm' hy'))
local macro_rules | `(tactic| walk_at "call builtin:list.insert") => `(tactic| (k_here; (with_reducible show wpAny _ _ (call (Value.builtin _) [Value.ref _, Value.int _ _, _]) _ _ _); (rename Fr _ _ _ _ => lF'); (rename News _ _ _ _ => lN'); first
  | ((refine' LsM.put_placed ?k1 ?k2 ?k3 lF' lN' ?k4 ?k5 ?k6 ?k7 ?_); (case k1 => with_reducible assumption); (case k2 => with_reducible assumption); (case k3 => with_reducible assumption); (case k4 => omega); (case k5 => omega); (case k6 => with_reducible assumption); (case k7 => omega); clear lF' lN'; intro h' F' N')
  | ((refine' LsM.put_parts ?k1 ?k2 ?k3 lF' lN' ?k4 ?k5 ?k6 ?k7 ?_); (case k1 => with_reducible assumption); (case k2 => with_reducible assumption); (case k3 => with_reducible assumption); (case k4 => omega); (case k5 => omega); (case k6 => with_reducible assumption); (case k7 => omega); clear lF' lN'; intro h' F' N')))
local macro_rules | `(tactic| walk_at "InvEndG") => `(tactic| ((rename Fr _ _ _ _ => eF'); (rename News _ _ _ _ => eN'); (with_unfolding_all refine' LsM.ord_end ?k1 eF' eN' ?k4 ?k5 ?k6 ?k7 ?k8); (case k1 => with_reducible assumption); (case k4 => ((rename AllLt _ _ => aL'); exact aL')); (case k5 => exact LsM.parts_putW (by with_reducible assumption) (by with_reducible assumption)); (case k6 => exact LsM.ints_put _ _ _ (by with_reducible assumption)); (case k7 => kst_same); (case k8 => first | exact LsM.ow_turn0 (by with_reducible assumption) (by with_reducible assumption) (by omega) (by omega) | exact LsM.ow_turn1 (by with_reducible assumption) (by with_reducible assumption) (by omega) (by with_reducible assumption) (by with_reducible assumption))))
local macro_rules | `(tactic| walk_at "call type:set cons nil") => `(tactic| (k_here; (with_reducible show wpAny _ _ (call (Value.type "set") [Value.ref _]) _ _ _); (rename Fr _ _ _ _ => lF'); (rename News _ _ _ _ => lN'); (with_unfolding_all refine' LsM.set_new lF' lN' ?k1 ?k2 ?k3 ?k4 ?_); (case k1 => k_memK); (case k2 => with_reducible assumption); (case k3 => rfl); (case k4 => (rw [List.length_map, rangeKs_length]; omega)); clear lF' lN'; intro D' h' tk' o' F' N' hs' hle' l1; simp only [AllLt, and_true] at l1))
local macro_rules | `(tactic| walk_at "KCfEl") => `(tactic| (refine kcf_el LsM.jmp_is (by with_unfolding_all rfl) (by with_unfolding_all rfl)))
local macro_rules | `(tactic| walk_at "DistR") => `(tactic| (first
  | ((with_unfolding_all refine' LsM.dist_neg ?k1 ?k2 ?k3 ?k4); (case k1 => with_reducible assumption); (case k2 => k_asm); (case k3 => k_asm); (case k4 => first | (with_unfolding_all exact True.intro) | (simp only [AllLt, and_true]; exact LsM.two_off (by with_reducible assumption))))
  | ((with_unfolding_all refine' LsM.dist_pos ?k1 ?k2 ?k3 ?k4); (case k1 => with_reducible assumption); (case k2 => k_asm); (case k3 => k_asm); (case k4 => first | (with_unfolding_all exact True.intro) | (simp only [AllLt, and_true]; exact LsM.two_off (by with_reducible assumption))))))
local macro_rules | `(tactic| walk_at "binaryOp FloorDiv int int") => `(tactic| (k_here; (with_reducible refine' LsM.step_div8 ?k1 ?k2 ?k3 ?_); (case k1 => k_dflt omega); (case k2 => k_dflt omega); (case k3 => k_dflt omega)))
local macro_rules | `(tactic| walk_at "binaryOp Mult int int") => `(tactic| (k_here; first
  | ((with_reducible refine' LsM.step_mul_sq ?k1 ?k2 ?_); (case k1 => k_dflt omega); (case k2 => k_dflt omega); intro hm1)
  | ((with_reducible refine' LsM.step_mul_n ?k1 ?k2 ?k3 ?k4 ?_); (case k1 => k_dflt omega); (case k2 => k_dflt omega); (case k3 => k_dflt omega); (case k4 => k_dflt omega); intro hm1)
  | ((with_reducible refine' LsM.step_mul_a ?k1 ?k2 ?k3 ?k4 ?_); (case k1 => k_dflt omega); (case k2 => k_dflt omega); (case k3 => k_dflt omega); (case k4 => k_dflt omega); intro hm1)
  | ((with_reducible refine' LsM.step_mul_g ?k1 ?k2 ?k3 ?k4 ?_); (case k1 => k_dflt omega); (case k2 => k_dflt omega); (case k3 => k_dflt omega); (case k4 => k_dflt omega))))
set_option maxRecDepth 100000 in
set_option maxHeartbeats 8000000 in
theorem PySem.Challenge.cw_linesteps_s10_order_holds : PySem.Challenge.rw_linesteps_s10_order.Holds := by
  k_with "call ref" => k_call_rec "whole_root" LsM.wroot (fun (s : Int) => 0 ≤ s ∧ s ≤ 1000000000000000000000000) (fun _ => 0)
  k_with "call ref" => k_call_rec "times_root" LsM.times (fun (f d : Int) => -10000000000 ≤ f ∧ f ≤ 10000000000 ∧ 0 ≤ d ∧ d ≤ 1000) (fun _ _ => 1)
  k_with "call ref" => ((with_reducible show wpAny _ _ (call (Value.ref _) [Value.int _ _, Value.int _ _, Value.int _ _, Value.int _ _, Value.int _ _, Value.int _ _]) _ _ _); (fail_if_success (with_reducible show wpAny _ _ _ (LsM.DistR _ _ _ _ _ _ _) _ _)); k_here; (rename Fr _ _ _ _ => lF'); (rename News _ _ _ _ => lN'); (with_unfolding_all refine' LsM.dist_merge lF' lN' ?q1 ?q2 ?q3 ?q4 ?_ ?_); (case q1 => omega); (case q2 => omega); (case q3 => omega); (case q4 => omega); (rotate_left; (intro D' h' tk' t1' t2' hY' F' N' l1; have l9 := l1; simp only [AllLt, and_true] at l1; clear lF' lN'); rotate_left))
  k_with "call ref" => k_call_rec "height_at" LsM.hgt (fun (a b c d n : Int) => (-1000 ≤ a ∧ a ≤ 1000) ∧ (-1000 ≤ b ∧ b ≤ 1000) ∧ (1 ≤ c ∧ c ≤ 1000) ∧ (0 ≤ d ∧ d ≤ 1000) ∧ (0 ≤ n ∧ n ≤ 1000)) (fun _ _ _ _ _ => 2)
  k_with "fact whole_root" => exact LsM.wr_fact
  k_with "fact height_at" => exact LsM.hgt_fact10
  k_with "tree" => (with_reducible show (_ : Int) = _); first
    | with_reducible exact (LsM.hgt_eq _ _ _ _ _).symm
    | with_reducible exact LsM.times_nonneg (by omega) (by omega)
    | with_reducible exact LsM.times_neg (by omega) (by omega) (by with_reducible assumption)
    | with_reducible exact LsM.times_neg' (by omega) (by omega) (by with_reducible assumption)
    | with_reducible exact LsM.wr_zero (by omega)
    | with_reducible exact LsM.wr_out (by with_reducible assumption) (by omega) (by with_reducible assumption) (by omega)
  k_with "state" => first
    | exact LsM.wi_start (by omega)
    | exact LsM.wi_turn (by with_reducible assumption) (by omega) (by with_reducible assumption) (by with_reducible assumption)
    | with_reducible exact LsM.wr_start (by omega) (by omega)
    | with_reducible exact LsM.wr_turn (by with_reducible assumption) (by omega) (by omega) (by omega)
  k_with "measure" => first
    | with_reducible exact LsM.wr_less (by omega) (by omega)
    | omega
  k_with "exec While Compare cons nil" => k_while_given ["square"] (fun sq _ root lower => 0 < root ∧ root ≤ sq ∧ 0 < lower ∧ sq < (root + 1) * (root + 1) ∧ lower = LsM.guess sq root) (fun _ _ root _ => root.toNat) "root" "lower"
  k_with "exec While BoolOp cons nil" => k_while_given ["at"] (fun at_ _ spot => LsM.WI hB.1 at_ spot kNs) (fun _ _ spot => spot.toNat) "spot"
  k_with "pyIter ref" => (k_of "at" => first | (exfalso; omega) | ((with_reducible show wpAny _ _ (pyIter (Value.ref _)) (fun it s₂ => LoopAtV _ _ _ _ _ _ _ _ _ it s₂) _ _); k_here; (rename Fr _ _ _ _ => lF'); (rename News _ _ _ _ => lN'); (rename IsRange _ _ _ _ _ _ _ _ => rgX); (with_unfolding_all refine' LsM.ord_loop hB.1 (by rfl) rgX (by first | exact small_one (by omega) (by omega) (by omega) (by omega) | decide) (by first | exact rangeSize_nat _ _ | rfl) lF' lN' (LsM.off_two (by k_all) (by k_all)) ?_ ?_); clear lF' lN'; (focus (intro kUs kVs kK1 kK2 kNs kTl kPre kN kT kU kH kTk kOwn kEq kLt kSep kO4 kParts kFacts kInv kFr kNews; simp only [List.nil_append, List.cons_append] at kNews kO4; have kMark := kstMark; have kMark2 := kdMark; have kLen := LsM.OW.length kInv; have kLen2 := PyProof.Rows.IntsAre.length kFacts)); rotate_left; (intro kUs kVs kK1 kK2 kNs kU kH kTk kFacts kInv kFr kNews; have kLen := LsM.OW.length kInv; have kLen2 := PyProof.Rows.IntsAre.length kFacts); rotate_left))
  k_with "CompSrc" => (k_here; (rename Fr _ _ _ _ => lF'); (rename News _ _ _ _ => lN'); (rename IsRange _ _ _ _ _ _ _ _ => rgX); (refine LCg.CompSrc.range (by rfl) lF' lN' rgX (by exact small_one (by omega) (by omega) (by omega) (by omega)) (by exact rangeSize_nat _ _) (by rw [PySem.sizeLine_eq]; omega) ?_); intro g'; (refine' kcf_range (LsM.jmp kNs) (fun k' t' I' oI' C' oC' D' m' ys' h' tk' E' hlo' hhi' hC' hx' F' N' off' ne' hMark' => ?_) ?_); (all_goals (try (simp only [LCg.Off3, and_true] at off'))); kcf_last)
  w_on
  k_headS
  case hw => exact ⟨[.int 0, .int 1, .int 1, .int 2, .int 1], by decide +kernel, by decide +kernel⟩
  w_strict (k_goS0; have hB := LsM.bounds10 (by assumption); (all_goals try k_fold); k_steps; (all_goals (try (w_end; sp_is; wrow_close))); (all_goals (try k_data)); all_goals first | sp_left | w_report)
  all_goals (
    obtain ⟨e5, hB5⟩ := LsM.dec5 (LsM.pre_dec hpre)
    refine os_post e5 ?_
    os_end
    have h9 := LsM.ow_end2 kInv (by omega)
    exact h9)
#print axioms PySem.Challenge.cw_linesteps_s10_order_holds
