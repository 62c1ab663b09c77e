import PyProof.Rows.All
import KE.OsGo
import KE.OsEnd
import PySem.Challenge.RW_linesteps_s02_sum_of
set_option Elab.async false
set_option maxHeartbeats 4000000
namespace LsM
open Rb26

/-! ### the root -/
theorem rootFrom_ok (n : Nat) : ∀ (k r : Nat), r * r ≤ n → n < (r + 2 ^ k) * (r + 2 ^ k) →
    rootFrom n k r * rootFrom n k r ≤ n ∧ n < (rootFrom n k r + 1) * (rootFrom n k r + 1)
  | 0, r, h1, h2 => by
    simp only [rootFrom]
    exact ⟨h1, by simpa using h2⟩
  | k + 1, r, h1, h2 => by
    simp only [rootFrom]
    by_cases h : (r + 2 ^ k) * (r + 2 ^ k) ≤ n
    · rw [if_pos h]
      refine rootFrom_ok n k _ h ?_
      have e : r + 2 ^ (k + 1) = r + 2 ^ k + 2 ^ k := by rw [Nat.pow_succ]; omega
      rw [e] at h2
      exact h2
    · rw [if_neg h]
      exact rootFrom_ok n k _ h1 (by omega)

theorem root_ok (n : Nat) : root n * root n ≤ n ∧ n < (root n + 1) * (root n + 1) := by
  unfold root
  refine rootFrom_ok n _ 0 (by omega) ?_
  have h1 : n < 2 ^ (n.log2 + 1) := Nat.lt_log2_self
  have h2 : n.log2 + 1 ≤ (n.log2 / 2 + 1) + (n.log2 / 2 + 1) := by omega
  have h3 : 2 ^ (n.log2 + 1) ≤ 2 ^ ((n.log2 / 2 + 1) + (n.log2 / 2 + 1)) := Nat.pow_le_pow_right (by decide) h2
  simp only [Nat.zero_add]
  rw [← Nat.pow_add]
  exact Nat.lt_of_lt_of_le h1 h3

theorem sq_lt {x y : Nat} (h : x * x < y * y) : x < y := by
  apply Nat.lt_of_not_le
  intro g
  have := Nat.mul_le_mul g g
  omega

theorem root_unique {n r : Nat} (h1 : r * r ≤ n) (h2 : n < (r + 1) * (r + 1)) : r = root n := by
  have ⟨g1, g2⟩ := root_ok n
  have a : r < root n + 1 := sq_lt (by omega)
  have b : root n < r + 1 := sq_lt (by omega)
  omega

/-- the root of a whole number, whole -/
def wroot (s : Int) : Int := ((root s.toNat : Nat) : Int)
theorem wroot_ok {s : Int} (h : 0 ≤ s) : 0 ≤ wroot s ∧ wroot s * wroot s ≤ s ∧ s < (wroot s + 1) * (wroot s + 1) := by
  have ⟨g1, g2⟩ := root_ok s.toNat
  unfold wroot
  refine ⟨Int.natCast_nonneg _, ?_, ?_⟩
  · have : ((root s.toNat * root s.toNat : Nat) : Int) ≤ ((s.toNat : Nat) : Int) := by exact_mod_cast g1
    rw [Int.natCast_mul] at this
    omega
  · have : ((s.toNat : Nat) : Int) < (((root s.toNat + 1) * (root s.toNat + 1) : Nat) : Int) := by exact_mod_cast g2
    rw [Int.natCast_mul] at this
    push_cast at this
    omega
theorem wroot_unique {s r : Int} (h0 : 0 ≤ r) (h1 : r * r ≤ s) (h2 : s < (r + 1) * (r + 1)) : r = wroot s := by
  have hs : 0 ≤ s := Int.le_trans (Int.mul_nonneg h0 h0) h1
  obtain ⟨k, rfl⟩ : ∃ k : Nat, r = (k : Int) := ⟨r.toNat, by omega⟩
  unfold wroot
  refine congrArg _ (root_unique ?_ ?_)
  · have : ((k * k : Nat) : Int) ≤ ((s.toNat : Nat) : Int) := by
      rw [Int.natCast_mul]; omega
    exact_mod_cast this
  · have : ((s.toNat : Nat) : Int) < (((k + 1) * (k + 1) : Nat) : Int) := by
      rw [Int.natCast_mul]; push_cast; omega
    exact_mod_cast this

/-! ### Newton's way -/
/-- one guess from another -/
def guess (s r : Int) : Int := (r + s.fdiv r).fdiv 2
theorem isq_lt {x y : Int} (hy : 0 ≤ y) (h : x * x < y * y) : x < y := by
  apply Int.lt_of_not_ge
  intro g
  have := Int.mul_le_mul g g hy (Int.le_trans hy g)
  omega
theorem guess_above {s r : Int} (hs : 0 ≤ s) (hr : 0 < r) : 0 ≤ guess s r ∧ s < (guess s r + 1) * (guess s r + 1) := by
  have e : s.fdiv r = s / r := Int.fdiv_eq_ediv_of_nonneg s (Int.le_of_lt hr)
  have e2 : guess s r = (r + s / r) / 2 := by
    unfold guess
    rw [e, Int.fdiv_eq_ediv_of_nonneg _ (by decide)]
  have q0 : 0 ≤ s / r := Int.ediv_nonneg hs (Int.le_of_lt hr)
  have m := Int.emod_lt_of_pos s hr
  have d := Int.mul_ediv_add_emod s r
  generalize s / r = q at *
  generalize guess s r = g at *
  have g0 : 0 ≤ g := by omega
  have k : r + q + 1 ≤ 2 * (g + 1) := by omega
  refine ⟨g0, ?_⟩
  have k2 := Int.mul_le_mul k k (by omega) (by omega)
  have sq : 0 ≤ (r - (q + 1)) * (r - (q + 1)) := by
    rcases Int.le_total 0 (r - (q + 1)) with h | h
    · exact Int.mul_nonneg h h
    · exact Int.mul_nonneg_of_nonpos_of_nonpos h h
  have r2 : r * (q + 1) = r * q + r := by rw [Int.mul_add, Int.mul_one]
  grind
theorem guess_end {s r : Int} (hr : 0 < r) (h : ¬ guess s r < r) : r * r ≤ s := by
  have e : s.fdiv r = s / r := Int.fdiv_eq_ediv_of_nonneg s (Int.le_of_lt hr)
  have e2 : guess s r = (r + s / r) / 2 := by
    unfold guess
    rw [e, Int.fdiv_eq_ediv_of_nonneg _ (by decide)]
  have m := Int.emod_nonneg s (Int.ne_of_gt hr)
  have d := Int.mul_ediv_add_emod s r
  have k : r ≤ s / r := by omega
  have := Int.mul_le_mul_of_nonneg_left k (Int.le_of_lt hr)
  omega
theorem guess_pos {s r : Int} (hs : 0 < s) (hr : 0 < r) : 0 < guess s r := by
  have ⟨h0, h1⟩ := guess_above (Int.le_of_lt hs) hr
  rcases (by omega : guess s r = 0 ∨ 0 < guess s r) with h | h
  · exfalso
    rw [h] at h1
    -- s < 1
    omega
  · exact h
end LsM
namespace LsM
open Rb26
/-! ### the program's own numbers -/
def times (f d : Int) : Int := rooted f d.toNat
def hgt (a b c d n : Int) : Int := (⟨a, b, c, d.toNat⟩ : Line).at_ n
theorem natAbs_sq (f : Int) : ((f.natAbs * f.natAbs : Nat) : Int) = f * f := Int.natAbs_mul_self
theorem times_nonneg {f d : Int} (hd : 0 ≤ d) (hf : f ≥ 0) : wroot (f * f * d) = times f d := by
  have e : (f * f * d).toNat = f.natAbs * f.natAbs * d.toNat := by
    have : ((f.natAbs * f.natAbs * d.toNat : Nat) : Int) = f * f * d := by
      rw [Int.natCast_mul, natAbs_sq, Int.toNat_of_nonneg hd]
    omega
  unfold times rooted wroot
  rw [e]
  simp only [if_pos (show (0 : Int) ≤ f from hf)]
theorem times_neg {f d : Int} (hd : 0 ≤ d) (hf : ¬ f ≥ 0) (hq : wroot (f * f * d) * wroot (f * f * d) = f * f * d) : -wroot (f * f * d) = times f d := by
  have e0 : ((f.natAbs * f.natAbs * d.toNat : Nat) : Int) = f * f * d := by
    rw [Int.natCast_mul, natAbs_sq, Int.toNat_of_nonneg hd]
  have e : (f * f * d).toNat = f.natAbs * f.natAbs * d.toNat := by omega
  unfold times rooted
  have hs : square (f.natAbs * f.natAbs * d.toNat) = true := by
    unfold square
    rw [beq_iff_eq]
    have : ((root (f.natAbs * f.natAbs * d.toNat) * root (f.natAbs * f.natAbs * d.toNat) : Nat) : Int) = ((f.natAbs * f.natAbs * d.toNat : Nat) : Int) := by
      rw [Int.natCast_mul, e0]
      unfold wroot at hq
      rw [e] at hq
      exact hq
    omega
  simp only [if_neg (show ¬ (0 : Int) ≤ f by omega), if_pos hs]
  unfold wroot
  rw [e]
theorem times_neg' {f d : Int} (hd : 0 ≤ d) (hf : ¬ f ≥ 0) (hq : ¬ wroot (f * f * d) * wroot (f * f * d) = f * f * d) : -wroot (f * f * d) - 1 = times f d := by
  have e0 : ((f.natAbs * f.natAbs * d.toNat : Nat) : Int) = f * f * d := by
    rw [Int.natCast_mul, natAbs_sq, Int.toNat_of_nonneg hd]
  have e : (f * f * d).toNat = f.natAbs * f.natAbs * d.toNat := by omega
  unfold times rooted
  have hs : ¬ square (f.natAbs * f.natAbs * d.toNat) = true := by
    unfold square
    rw [beq_iff_eq]
    intro h
    apply hq
    unfold wroot
    rw [e, ← e0, ← Int.natCast_mul, h]
  simp only [if_neg (show ¬ (0 : Int) ≤ f by omega), if_neg hs]
  unfold wroot
  rw [e]
theorem hgt_eq (a b c d n : Int) : hgt a b c d n = (n * a + times (n * b) d).fdiv c := by
  unfold hgt Line.at_ times
  simp only [Int.mul_comm]
theorem height_due {a b c d n : Int} (h : 0 ≤ n) : PyRb26.height a b c d n = [hgt a b c d n] := by
  show [(⟨a, b, c, d.toNat⟩ : Line).at_ ((n.toNat : Nat) : Int)] = [hgt a b c d n]
  rw [Int.toNat_of_nonneg h]
  rfl
theorem sum_due {a b c d n : Int} : PyRb26.sum_of a b c d n = [((List.range n.toNat).map fun (i : Nat) => hgt a b c d (i : Int)).sum] := rfl
end LsM
namespace LsM
open PySem PySem.W PySem.Calls PyProof.Rows
theorem mul_in {x y p q : Int} (hp : 0 ≤ p) (hq : 0 ≤ q) (x0 : -p ≤ x) (x1 : x ≤ p) (y0 : -q ≤ y) (y1 : y ≤ q) : -(p * q) ≤ x * y ∧ x * y ≤ p * q := by
  have hx : x.natAbs ≤ p.natAbs := by omega
  have hy : y.natAbs ≤ q.natAbs := by omega
  have h := Nat.mul_le_mul hx hy
  rw [← Int.natAbs_mul, ← Int.natAbs_mul] at h
  have := Int.mul_nonneg hp hq
  omega
theorem mul_self_nonneg (x : Int) : 0 ≤ x * x := by
  rcases Int.le_total 0 x with h | h
  · exact Int.mul_nonneg h h
  · exact Int.mul_nonneg_of_nonpos_of_nonpos h h
theorem bits90 {k : Int} (h1 : -1000000000000000000000000000 ≤ k) (h2 : k ≤ 1000000000000000000000000000) : Builtin.Int.intBits k ≤ 2 ^ 20 := by
  unfold Builtin.Int.intBits
  split
  · exact Nat.zero_le _
  · have hn : k.natAbs < 2 ^ 90 := by omega
    have : k.natAbs.log2 < 90 := by
      rcases Nat.eq_zero_or_pos k.natAbs with h0 | hp
      · rw [h0]; decide
      · exact (Nat.log2_lt (Nat.ne_of_gt hp)).mpr hn
    omega
theorem pylong90 {x y : Int} (h1 : -1000000000000000000000000000 ≤ y) (h2 : y ≤ 1000000000000000000000000000) : Builtin.divisionGoesByPylong x y = false := by
  refine PyProof.noPylong_of_log2 ?_
  rcases Nat.eq_zero_or_pos y.natAbs with h0 | hp
  · rw [h0]; decide +kernel
  · have : y.natAbs.log2 < 90 := (Nat.log2_lt (Nat.ne_of_gt hp)).mpr (by omega)
    omega
section
variable {prog : Program} {w : World} {A : Around} {E : Value → Shared → Prop} {s : Shared} {x y : Int} {t u : Tok} {Q : Value → Shared → Prop}
theorem step_div (hy : 0 < y) (hs : y ≤ 1000000000000000000000000000) (h : Q (.int (x.fdiv y) s.toks) { s with toks := s.toks + 1 }) :
    wpAny (model prog w) A (binaryOp .FloorDiv (.int x t) (.int y u)) Q E s :=
  PyProof.Rows.floordiv_int (by omega) h (Or.inl (pylong90 (by omega) hs))
theorem step_mul (x0 : -1000000000000000000000000000 ≤ x) (x1 : x ≤ 1000000000000000000000000000) (y0 : -1000000000000000000000000000 ≤ y) (y1 : y ≤ 1000000000000000000000000000)
    (h : (-1000000 ≤ x → x ≤ 1000000 → -1000 ≤ y → y ≤ 1000 → -1000000000 ≤ x * y ∧ x * y ≤ 1000000000) → (x = y → -1000000000 ≤ x → x ≤ 1000000000 → 0 ≤ x * y ∧ x * y ≤ 1000000000000000000) →
      (0 ≤ x → x ≤ 1000000000000000000 → 0 ≤ y → y ≤ 1000 → 0 ≤ x * y ∧ x * y ≤ 1000000000000000000000) → Q (.int (x * y) s.toks) { s with toks := s.toks + 1 }) :
    wpAny (model prog w) A (binaryOp .Mult (.int x t) (.int y u)) Q E s :=
  PyProof.Rows.mul_int (h (fun a b c d => mul_in (p := 1000000) (q := 1000) (by decide) (by decide) a b c d)
    (fun e a b => by subst e; exact ⟨mul_self_nonneg x, (mul_in (p := 1000000000) (q := 1000000000) (by decide) (by decide) a b a b).2⟩)
    (fun a b c d => ⟨Int.mul_nonneg a c, (mul_in (p := 1000000000000000000) (q := 1000) (by decide) (by decide) (by omega) b (by omega) d).2⟩)) (PySem.IntMulOk.of_bits (bits90 x0 x1) (bits90 y0 y1))
end
theorem pre_dec {r : OpenSpec} {as : List WData} (h : r.pre as = true) : (Codec.decAll r.args as).isSome = true := by
  unfold OpenSpec.pre at h
  cases h1 : Codec.decAll r.args as with
  | none => rw [h1] at h; cases h
  | some a => rfl
theorem dec_cons {c : Codec} {cs : List Codec} {d : WData} {ds : List WData} (h : (Codec.decAll (c :: cs) (d :: ds)).isSome = true) :
    (Codec.decAll [c] [d]).isSome = true ∧ (Codec.decAll cs ds).isSome = true := by
  have e : Codec.decAll (c :: cs) (d :: ds) = Codec.both Prod.mk (c.dec d) (Codec.decAll cs ds) := rfl
  have e1 : Codec.decAll [c] [d] = Codec.both Prod.mk (c.dec d) (some ()) := rfl
  rw [e] at h
  rw [e1]
  cases h1 : c.dec d with
  | none =>
    rw [h1] at h
    cases h
  | some a =>
    cases h2 : Codec.decAll cs ds with
    | none =>
      rw [h1, h2] at h
      cases h
    | some r => exact ⟨rfl, rfl⟩
theorem dec_join {c : Codec} {cs : List Codec} {d : WData} {ds : List WData} {a : c.denote} {r : Codec.denoteAll cs} (h1 : Codec.decAll [c] [d] = some (a, ())) (h2 : Codec.decAll cs ds = some r) :
    Codec.decAll (c :: cs) (d :: ds) = some (a, r) := by
  have e : Codec.decAll (c :: cs) (d :: ds) = Codec.both Prod.mk (c.dec d) (Codec.decAll cs ds) := rfl
  have e1 : Codec.decAll [c] [d] = Codec.both Prod.mk (c.dec d) (some ()) := rfl
  rw [e1] at h1
  rw [e, h2]
  cases h3 : c.dec d with
  | none =>
    rw [h3] at h1
    cases h1
  | some b =>
    rw [h3] at h1
    cases h1
    rfl
theorem dec_int {lo hi k : Int} (h : (Codec.decAll [.int lo hi] [WData.int k]).isSome = true) : Codec.decAll [.int lo hi] [WData.int k] = some (k, ()) ∧ lo ≤ k ∧ k ≤ hi := by
  have e : Codec.decAll [.int lo hi] [WData.int k] = Codec.both Prod.mk (if Codec.inInt lo hi k = true then some k else none) (some ()) := rfl
  rw [e] at h ⊢
  cases h1 : Codec.inInt lo hi k with
  | false =>
    rw [h1] at h
    cases h
  | true =>
    unfold Codec.inInt at h1
    simp only [Bool.and_eq_true, decide_eq_true_eq] at h1
    exact ⟨rfl, h1.1, h1.2⟩
/-- five whole numbers handed in -/
theorem dec5 {l1 u1 l2 u2 l3 u3 l4 u4 l5 u5 a b c d n : Int} (h : (Codec.decAll [.int l1 u1, .int l2 u2, .int l3 u3, .int l4 u4, .int l5 u5] [.int a, .int b, .int c, .int d, .int n]).isSome = true) :
    Codec.decAll [.int l1 u1, .int l2 u2, .int l3 u3, .int l4 u4, .int l5 u5] [.int a, .int b, .int c, .int d, .int n] = some (a, b, c, d, n, ()) ∧ (l1 ≤ a ∧ a ≤ u1) ∧ (l2 ≤ b ∧ b ≤ u2) ∧ (l3 ≤ c ∧ c ≤ u3) ∧ (l4 ≤ d ∧ d ≤ u4) ∧ (l5 ≤ n ∧ n ≤ u5) := by
  obtain ⟨h1, h⟩ := dec_cons h
  obtain ⟨h2, h⟩ := dec_cons h
  obtain ⟨h3, h⟩ := dec_cons h
  obtain ⟨h4, h5⟩ := dec_cons h
  obtain ⟨e1, b1⟩ := dec_int h1
  obtain ⟨e2, b2⟩ := dec_int h2
  obtain ⟨e3, b3⟩ := dec_int h3
  obtain ⟨e4, b4⟩ := dec_int h4
  obtain ⟨e5, b5⟩ := dec_int h5
  exact ⟨dec_join e1 (dec_join e2 (dec_join e3 (dec_join e4 e5))), b1, b2, b3, b4, b5⟩
theorem bounds2 {a b c d n : Int} (h : PySem.Challenge.rw_linesteps_s02_sum_of.pre [.int a, .int b, .int c, .int d, .int n] = true) :
    (-1000 ≤ a ∧ a ≤ 1000) ∧ (-1000 ≤ b ∧ b ≤ 1000) ∧ (1 ≤ c ∧ c ≤ 1000) ∧ (0 ≤ d ∧ d ≤ 1000) ∧ (0 ≤ n ∧ n ≤ 3000) := (dec5 (pre_dec h)).2
theorem foldl_sum (g : Int → Int) : ∀ (l : List Nat) (acc : Int), (l.map fun (i : Nat) => (0 : Int) + (i : Int)).foldl (fun a k => a + g k) acc = acc + (l.map fun (i : Nat) => g (i : Int)).sum
  | [], acc => by simp
  | x :: r, acc => by
    rw [List.map_cons, List.foldl_cons, foldl_sum g r, List.map_cons, List.sum_cons, Int.zero_add]
    omega
theorem fold_range (g : Int → Int) (n : Int) : (rangeKs 0 (n - 0).toNat).foldl (fun a k => a + g k) 0 = ((List.range n.toNat).map fun (i : Nat) => g (i : Int)).sum := by
  unfold rangeKs
  rw [foldl_sum, Int.zero_add, Int.sub_zero]
/-! the loop of whole_root -/
theorem wr_start {sq : Int} (h0 : 0 ≤ sq) (h1 : ¬ sq = 0) : 0 < sq ∧ sq ≤ sq ∧ 0 < (sq + sq.fdiv sq).fdiv 2 ∧ sq < (sq + 1) * (sq + 1) ∧ (sq + sq.fdiv sq).fdiv 2 = guess sq sq := by
  have : sq * 1 ≤ sq * sq := Int.mul_le_mul_of_nonneg_left (by omega) h0
  refine ⟨by omega, by omega, guess_pos (by omega) (by omega), ?_, rfl⟩
  have e : (sq + 1) * (sq + 1) = sq * sq + 2 * sq + 1 := by grind
  omega
theorem wr_turn {sq r l : Int} (e : l = guess sq r) (hr : 0 < r) (hs : r ≤ sq) (h : l < r) : 0 < l ∧ l ≤ sq ∧ 0 < (l + sq.fdiv l).fdiv 2 ∧ sq < (l + 1) * (l + 1) ∧ (l + sq.fdiv l).fdiv 2 = guess sq l := by
  subst e
  have hl := guess_pos (s := sq) (by omega) hr
  exact ⟨hl, by omega, guess_pos (by omega) hl, (guess_above (by omega) hr).2, rfl⟩
theorem wr_less {r l : Int} (hr : 0 < r) (h : l < r) : l.toNat < r.toNat := by
  omega
theorem wr_out {sq r l : Int} (e : l = guess sq r) (hr : 0 < r) (hb : sq < (r + 1) * (r + 1)) (h : ¬ l < r) : r = wroot sq := by
  subst e
  exact wroot_unique (by omega) (guess_end hr h) hb
theorem wr_zero {sq : Int} (h : sq = 0) : 0 = wroot sq := by
  subst h
  exact wroot_unique (by decide) (by decide) (by decide)
theorem wr_fact (s : Int) : 0 ≤ s ∧ s ≤ 1000000000000000000000 → 0 ≤ wroot s ∧ wroot s ≤ 100000000000 := by
  intro ⟨h0, h1⟩
  obtain ⟨g0, g1, g2⟩ := wroot_ok h0
  refine ⟨g0, ?_⟩
  apply Int.le_of_not_gt
  intro h
  have := Int.mul_le_mul (Int.le_of_lt h) (Int.le_of_lt h) (by decide) g0
  omega
end LsM
open PySem PySem.W PyProof.Rows
local macro_rules | `(tactic| walk_at "binaryOp FloorDiv int int") => `(tactic| (k_here; (with_reducible refine' LsM.step_div ?k1 ?k2 ?_); (case k1 => k_dflt omega); (case k2 => k_dflt omega)))
local macro_rules | `(tactic| walk_at "binaryOp Mult int int") => `(tactic| (k_here; (with_reducible refine' LsM.step_mul ?k1 ?k2 ?k3 ?k4 ?_); (case k1 => k_dflt omega); (case k2 => k_dflt omega); (case k3 => k_dflt omega); (case k4 => k_dflt omega); intro hm1 hm2 hm3))
set_option maxRecDepth 100000 in
set_option maxHeartbeats 8000000 in
theorem PySem.Challenge.cw_linesteps_s02_sum_of_holds : PySem.Challenge.rw_linesteps_s02_sum_of.Holds := by
  k_with "call ref" => k_call_rec "whole_root" LsM.wroot (fun (s : Int) => 0 ≤ s ∧ s ≤ 1000000000000000000000) (fun _ => 0)
  k_with "call ref" => k_call_rec "times_root" LsM.times (fun (f d : Int) => -1000000000 ≤ f ∧ f ≤ 1000000000 ∧ 0 ≤ d ∧ d ≤ 1000) (fun _ _ => 1)
  k_with "call ref" => k_call_rec "height_at" LsM.hgt (fun (a b c d n : Int) => (-1000 ≤ a ∧ a ≤ 1000) ∧ (-1000 ≤ b ∧ b ≤ 1000) ∧ (1 ≤ c ∧ c ≤ 1000) ∧ (0 ≤ d ∧ d ≤ 1000) ∧ (0 ≤ n ∧ n ≤ 1000000)) (fun _ _ _ _ _ => 2)
  k_with "fact whole_root" => exact LsM.wr_fact
  k_with "tree" => first
    | exact LsM.wr_zero (by omega)
    | exact LsM.wr_out (by assumption) (by omega) (by assumption) (by omega)
    | exact LsM.times_nonneg (by omega) (by omega)
    | exact LsM.times_neg (by omega) (by omega) (by omega)
    | exact LsM.times_neg' (by omega) (by omega) (by omega)
    | exact (LsM.hgt_eq _ _ _ _ _).symm
  k_with "state" => first
    | exact LsM.wr_start (by omega) (by omega)
    | exact LsM.wr_turn (by assumption) (by omega) (by omega) (by omega)
  k_with "measure" => exact LsM.wr_less (by omega) (by omega)
  k_with "exec While Compare cons nil" => k_while_given ["square"] (fun sq _ root lower => 0 < root ∧ root ≤ sq ∧ 0 < lower ∧ sq < (root + 1) * (root + 1) ∧ lower = LsM.guess sq root) (fun _ _ root _ => root.toNat) "root" "lower"
  w_on
  k_headS
  case hw => exact ⟨[.int 0, .int 0, .int 1, .int 0, .int 0], by decide +kernel, by decide +kernel⟩
  w_strict (k_goS0; have hB := LsM.bounds2 (by assumption); (all_goals try k_fold); k_steps; (all_goals (try (w_end; sp_is; wrow_close))); (all_goals (try k_data)); all_goals first | sp_left | w_report)
  all_goals (
    obtain ⟨e5, hB5⟩ := LsM.dec5 (LsM.pre_dec hpre)
    refine os_post e5 ?_
    os_end
    rw [LsM.fold_range]
    exact congrArg (List.map PyData.int) LsM.sum_due.symm)
#print axioms PySem.Challenge.cw_linesteps_s02_sum_of_holds
