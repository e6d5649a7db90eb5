import PyProof.Rows.All
import Wide.All
import OpenK.AllK
import Wide.FinOn
import PyProof.EqAt
import PyProof.EqKinds
import PyProof.TupleCall
import KE.BitLaws
import Open.SpecLaws
import KE.OsHead
import KE.OsGo
import PySem.Challenge.RW_dayround_s09_read
set_option Elab.async false
namespace Cal
open Sw11

theorem fd4 (a : Int) : a.fdiv 4 = a / 4 := Int.fdiv_eq_ediv_of_nonneg a (by decide)
theorem fd100 (a : Int) : a.fdiv 100 = a / 100 := Int.fdiv_eq_ediv_of_nonneg a (by decide)
theorem fd400 (a : Int) : a.fdiv 400 = a / 400 := Int.fdiv_eq_ediv_of_nonneg a (by decide)
theorem fdE (a : Int) : a.fdiv 146097 = a / 146097 := Int.fdiv_eq_ediv_of_nonneg a (by decide)

theorem ys (y : Int) : yearStart y = 365 * y + (y + 3) / 4 - (y + 99) / 100 + (y + 399) / 400 := by
  simp only [yearStart, fd4, fd100, fd400]
theorem ys1970 : yearStart 1970 = 719528 := by decide
theorem first_is : FIRST = -365961662 := by decide
theorem last_is : LAST = 364522971 := by decide

theorem long_iff (y : Int) : long y = true ↔ (y % 4 = 0 ∧ y % 100 ≠ 0) ∨ y % 400 = 0 := by
  simp [long, bne]

theorem ys_succ (y : Int) : yearStart (y + 1) = yearStart y + (if long y = true then 366 else 365) := by
  rw [ys, ys]
  by_cases h : long y = true
  · rw [if_pos h]
    rw [long_iff] at h
    omega
  · rw [if_neg h]
    rw [long_iff] at h
    omega

theorem ys_mono {a b : Int} (h : a ≤ b) : yearStart a ≤ yearStart b := by
  rw [ys, ys]; omega

theorem ys_unique {a b z : Int} (h1 : yearStart a ≤ z) (h2 : z < yearStart (a + 1)) (h3 : yearStart b ≤ z) (h4 : z < yearStart (b + 1)) : a = b := by
  rcases (by omega : a = b ∨ a + 1 ≤ b ∨ b + 1 ≤ a) with h | h | h
  · exact h
  · have := ys_mono h; omega
  · have := ys_mono h; omega

/-- Days ahead of a month, by the long year's extra day. -/
def ahead (l : Bool) (m : Nat) : Nat :=
  match m with
  | 2 => 31
  | 3 => if l = true then 60 else 59
  | 4 => if l = true then 91 else 90
  | 5 => if l = true then 121 else 120
  | 6 => if l = true then 152 else 151
  | 7 => if l = true then 182 else 181
  | 8 => if l = true then 213 else 212
  | 9 => if l = true then 244 else 243
  | 10 => if l = true then 274 else 273
  | 11 => if l = true then 305 else 304
  | 12 => if l = true then 335 else 334
  | 13 => if l = true then 366 else 365
  | _ => 0

theorem before_is (y : Int) (m : Nat) (h : m ≤ 13) : before y m = ahead (long y) m := by
  unfold before
  cases hl : long y <;>
  (rcases (by omega : m = 0 ∨ m = 1 ∨ m = 2 ∨ m = 3 ∨ m = 4 ∨ m = 5 ∨ m = 6 ∨ m = 7 ∨ m = 8 ∨ m = 9 ∨ m = 10 ∨ m = 11 ∨ m = 12 ∨ m = 13) with h | h | h | h | h | h | h | h | h | h | h | h | h | h <;>
   subst h <;> simp [List.range_succ, monthDays, hl, ahead])

theorem before_succ (y : Int) (m : Nat) (h1 : 1 ≤ m) : before y (m + 1) = before y m + monthDays y m := by
  unfold before
  obtain ⟨k, rfl⟩ : ∃ k, m = k + 1 := ⟨m - 1, by omega⟩
  simp [List.range_succ]

theorem before_13 (y : Int) : before y 13 = (if long y = true then 366 else 365) := by
  rw [before_is y 13 (by omega)]
  rfl

theorem before_mono (y : Int) {a b : Nat} (h1 : 1 ≤ a) (h : a ≤ b) : before y a ≤ before y b := by
  induction b with
  | zero => omega
  | succ b ih =>
    rcases (by omega : a = b + 1 ∨ a ≤ b) with e | e
    · rw [e]; exact Nat.le_refl _
    · rw [before_succ y b (by omega)]
      have := ih e
      omega

theorem monthDays_in (y : Int) (m : Nat) : 28 ≤ monthDays y m ∧ monthDays y m ≤ 31 := by
  unfold monthDays
  repeat' split
  all_goals omega

theorem count_upto (p : Nat → Bool) (k : Nat) : ∀ (N : Nat), k ≤ N → (∀ i, i < k → p i = true) → (∀ i, k ≤ i → i < N → p i = false) → ((List.range N).filter p).length = k
  | 0, hk, _, _ => by simp; omega
  | N + 1, hk, h1, h2 => by
    rw [List.range_succ, List.filter_append, List.length_append]
    rcases (by omega : k = N + 1 ∨ k ≤ N) with e | e
    · have i := count_upto p N N (Nat.le_refl _) (fun i hi => h1 i (by omega)) (fun i a b => by omega)
      rw [i]
      simp [h1 N (by omega), e]
    · have i := count_upto p k N e h1 (fun i a b => h2 i a (by omega))
      rw [i]
      simp [h2 N e (by omega)]

/-- The year of a day, as worked out. -/
theorem dayCivil_year (n : Int) : yearStart (dayCivil n).y ≤ n + 719528 ∧ n + 719528 < yearStart ((dayCivil n).y + 1) := by
  simp only [dayCivil, ys1970, fdE]
  generalize hz : n + 719528 = z
  generalize hy : z * 400 / 146097 = y0
  have b1 : 146097 * y0 ≤ z * 400 := by omega
  have b2 : z * 400 < 146097 * y0 + 146097 := by omega
  have a1 := ys (y0 - 1)
  have a2 := ys y0
  have a3 := ys (y0 + 1)
  have a4 := ys (y0 + 1 + 1)
  have e0 : y0 - 1 + 1 = y0 := by omega
  by_cases h1 : yearStart (y0 + 1) ≤ z
  · rw [if_pos h1]
    exact ⟨h1, by omega⟩
  · rw [if_neg h1]
    by_cases h2 : z < yearStart y0
    · rw [if_pos h2, e0]
      exact ⟨by omega, h2⟩
    · rw [if_neg h2]
      exact ⟨by omega, by omega⟩

/-- **Whatever year, month and day of the month make a day are that day's.** -/
theorem dayCivil_eq {n : Int} {y : Int} {m d : Nat} (hm1 : 1 ≤ m) (hm2 : m ≤ 12) (hd1 : 1 ≤ d) (hd2 : d ≤ monthDays y m)
    (h : yearStart y + (before y m : Int) + (d : Int) - 1 = n + 719528) : dayCivil n = ⟨y, m, d⟩ := by
  have hy := dayCivil_year n
  have b1 := before_succ y m hm1
  have b2 := before_mono y (a := m + 1) (b := 13) (by omega) (by omega)
  have b3 := before_13 y
  have s := ys_succ y
  have ey : (dayCivil n).y = y := by
    refine ys_unique hy.1 hy.2 (by omega) ?_
    rw [s, show ((if long y = true then 366 else 365 : Int)) = ((if long y = true then 366 else 365 : Nat) : Int) by split <;> rfl]
    rw [← b3]
    omega
  have em : (dayCivil n).m = m := by
    have e : (dayCivil n).m = ((List.range 12).filter fun (k : Nat) => decide (before (dayCivil n).y (k + 1) ≤ (n + yearStart 1970 - yearStart (dayCivil n).y).toNat)).length := rfl
    rw [e, ey, ys1970]
    have ed : (n + 719528 - yearStart y).toNat = before y m + (d - 1) := by omega
    rw [ed]
    refine count_upto _ m 12 hm2 ?_ ?_
    · intro i hi
      have := before_mono y (a := i + 1) (b := m) (by omega) (by omega)
      simp only [decide_eq_true_eq]
      omega
    · intro i hi _
      have := before_mono y (a := m + 1) (b := i + 1) (by omega) (by omega)
      simp only [decide_eq_false_iff_not]
      omega
  have ed : (dayCivil n).d = d := by
    have e : (dayCivil n).d = (n + yearStart 1970 - yearStart (dayCivil n).y).toNat - before (dayCivil n).y (dayCivil n).m + 1 := rfl
    rw [e, ey, em, ys1970]
    omega
  cases hc : dayCivil n with
  | mk a b c =>
    rw [hc] at ey em ed
    simp only at ey em ed
    rw [ey, em, ed]

/-- **The other way: a day's year, month and day of the month make it.** -/
theorem dayCivil_right (n : Int) : 1 ≤ (dayCivil n).m ∧ (dayCivil n).m ≤ 12 ∧ 1 ≤ (dayCivil n).d ∧ (dayCivil n).d ≤ monthDays (dayCivil n).y (dayCivil n).m ∧
    yearStart (dayCivil n).y + (before (dayCivil n).y (dayCivil n).m : Int) + ((dayCivil n).d : Int) - 1 = n + 719528 := by
  have hy := dayCivil_year n
  generalize hc : (dayCivil n).y = y at *
  have s := ys_succ y
  have b3 := before_13 y
  have hb : before y 1 = 0 := by rfl
  have k : ∃ m d : Nat, 1 ≤ m ∧ m ≤ 12 ∧ 1 ≤ d ∧ d ≤ monthDays y m ∧ yearStart y + (before y m : Int) + (d : Int) - 1 = n + 719528 := by
    have hlt : (n + 719528 - yearStart y).toNat < before y 13 := by
      rw [b3]
      split at s
      · rw [if_pos (by assumption)]; omega
      · rw [if_neg (by assumption)]; omega
    have : ∀ M : Nat, 1 ≤ M → (n + 719528 - yearStart y).toNat < before y (M + 1) → ∃ m : Nat, 1 ≤ m ∧ m ≤ M ∧ before y m ≤ (n + 719528 - yearStart y).toNat ∧ (n + 719528 - yearStart y).toNat < before y (m + 1) := by
      intro M
      induction M with
      | zero => intro h; omega
      | succ M ih =>
        intro h1 h2
        by_cases h3 : before y (M + 1) ≤ (n + 719528 - yearStart y).toNat
        · exact ⟨M + 1, by omega, by omega, h3, h2⟩
        · rcases (by omega : M = 0 ∨ 1 ≤ M) with e | e
          · subst e
            have hb' : before y (0 + 1) = 0 := hb
            omega
          · obtain ⟨m, a, b, c, d⟩ := ih e (by omega)
            exact ⟨m, a, by omega, c, d⟩
    obtain ⟨m, h1, h2, h3, h4⟩ := this 12 (by omega) hlt
    rw [before_succ y m h1] at h4
    exact ⟨m, (n + 719528 - yearStart y).toNat - before y m + 1, h1, h2, by omega, by omega, by omega⟩
  obtain ⟨m, d, h1, h2, h3, h4, h5⟩ := k
  have e := dayCivil_eq h1 h2 h3 h4 h5
  have em : (dayCivil n).m = m := by rw [e]
  have ed : (dayCivil n).d = d := by rw [e]
  rw [em, ed]
  exact ⟨h1, h2, h3, h4, h5⟩
end Cal
namespace Cal
open Sw11

def foy (y : Int) : Int := yearStart y - 719528
def fom (y m : Int) : Int := yearStart y - 719528 + (before y m.toNat : Int)
def yof (n : Int) : Int := (dayCivil n).y
def mof (n : Int) : Int := ((dayCivil n).m : Int)
def mlen (y m : Int) : Int := (monthDays y m.toNat : Int)

theorem ys_at {q c f g : Int} (hc0 : 0 ≤ c) (hc : c ≤ 3) (hf0 : 0 ≤ f) (hf : f ≤ 24) (hg0 : 0 ≤ g) (hg : g ≤ 3) :
    yearStart (1 + q * 400 + c * 100 + f * 4 + g) = 366 + 146097 * q + 36524 * c + 1461 * f + 365 * g := by
  rw [ys]
  have e1 : (1 + q * 400 + c * 100 + f * 4 + g + 3) / 4 = q * 100 + c * 25 + f + 1 := by omega
  have e2 : (1 + q * 400 + c * 100 + f * 4 + g + 99) / 100 = q * 4 + c + 1 := by omega
  have e3 : (1 + q * 400 + c * 100 + f * 4 + g + 399) / 400 = q + 1 := by omega
  rw [e1, e2, e3]
  omega

theorem yof_is {n q r c f g : Int} (e : n + 719162 = 146097 * q + r) (r0 : 0 ≤ r) (r1 : r < 146097)
    (hc : (c = r / 36524 ∧ r / 36524 ≤ 3) ∨ (c = 3 ∧ 3 ≤ r / 36524))
    (hf : f = (r - c * 36524) / 1461)
    (hg : (g = (r - c * 36524) % 1461 / 365 ∧ (r - c * 36524) % 1461 / 365 ≤ 3) ∨ (g = 3 ∧ 3 ≤ (r - c * 36524) % 1461 / 365)) :
    1 + q * 400 + c * 100 + f * 4 + g = yof n := by
  have c0 : 0 ≤ c ∧ c ≤ 3 ∧ 36524 * c ≤ r ∧ r ≤ 36524 * c + 36524 ∧ (r = 36524 * c + 36524 → c = 3) := by
    rcases hc with h | h <;> omega
  obtain ⟨c0, c1, c2, c3, c4⟩ := c0
  generalize hk : r - c * 36524 = k at *
  have f0 : 0 ≤ f ∧ f ≤ 24 := by omega
  have g0 : 0 ≤ g ∧ g ≤ 3 ∧ 365 * g ≤ k % 1461 ∧ k % 1461 ≤ 365 * g + 365 ∧ (k % 1461 = 365 * g + 365 → g = 3) := by
    rcases hg with h | h <;> omega
  obtain ⟨g0, g1, g2, g3, g4⟩ := g0
  have hy := dayCivil_year n
  have a := ys_at (q := q) c0 c1 f0.1 f0.2 g0 g1
  refine ys_unique (z := n + 719528) ?_ ?_ hy.1 hy.2
  · rw [a]; omega
  · rw [ys_succ, a]
    generalize hY : 1 + q * 400 + c * 100 + f * 4 + g = Y
    by_cases hl : long Y = true
    · rw [if_pos hl]; omega
    · rw [if_neg hl]
      rw [long_iff] at hl
      omega
end Cal
namespace Cal
open Sw11

/-- An answer as a list. -/
def flat (a : Ans) : List Int := a.code :: (a.nums ++ a.out.map fun (c : UInt8) => (c.toNat : Int))
theorem flat_if {p : Prop} [Decidable p] (a b : Ans) : flat (if p then a else b) = if p then flat a else flat b := by
  split <;> rfl
theorem isDay_iff (n : Int) : isDay n = true ↔ -365961662 ≤ n ∧ n ≤ 364522971 := by
  simp [isDay, first_is, last_is]

/-- The table of the days ahead of each month, as the program has it. -/
theorem fom_short {y m : Int} (h : 1 ≤ m) (h' : m ≤ 2) : foy y + ([0, 31, 59, 90, 120, 151, 181, 212, 243, 273, 304, 334] : List Int).getD (m - 1).toNat 0 = fom y m := by
  unfold foy fom
  rw [before_is y m.toNat (by omega)]
  rcases (by omega : m = 1 ∨ m = 2) with e | e <;> subst e <;> rfl
theorem fom_plain {y m : Int} (h : 1 ≤ m) (h' : m ≤ 12) (hl : long y = false) : foy y + ([0, 31, 59, 90, 120, 151, 181, 212, 243, 273, 304, 334] : List Int).getD (m - 1).toNat 0 = fom y m := by
  unfold foy fom
  rw [before_is y m.toNat (by omega), hl]
  rcases (by omega : m = 1 ∨ m = 2 ∨ m = 3 ∨ m = 4 ∨ m = 5 ∨ m = 6 ∨ m = 7 ∨ m = 8 ∨ m = 9 ∨ m = 10 ∨ m = 11 ∨ m = 12) with e | e | e | e | e | e | e | e | e | e | e | e <;> subst e <;> rfl
theorem fom_long {y m : Int} (h : 3 ≤ m) (h' : m ≤ 12) (hl : long y = true) : foy y + ([0, 31, 59, 90, 120, 151, 181, 212, 243, 273, 304, 334] : List Int).getD (m - 1).toNat 0 + 1 = fom y m := by
  unfold foy fom
  rw [before_is y m.toNat (by omega), hl]
  rcases (by omega : m = 3 ∨ m = 4 ∨ m = 5 ∨ m = 6 ∨ m = 7 ∨ m = 8 ∨ m = 9 ∨ m = 10 ∨ m = 11 ∨ m = 12) with e | e | e | e | e | e | e | e | e | e <;> subst e <;> (simp [ahead]; omega)

theorem mlen_in (y m : Int) : 28 ≤ mlen y m ∧ mlen y m ≤ 31 := by
  have := monthDays_in y m.toNat
  unfold mlen
  omega
theorem fom_succ (y : Int) {m : Int} (h : 1 ≤ m) : fom y (m + 1) = fom y m + mlen y m := by
  unfold fom mlen
  rw [show (m + 1).toNat = m.toNat + 1 by omega, before_succ y m.toNat (by omega)]
  omega
theorem fom_13 (y : Int) : fom y 13 = foy (y + 1) := by
  unfold fom foy
  rw [show (13 : Int).toNat = 13 from rfl, before_13, ys_succ]
  split <;> omega
theorem fom_1 (y : Int) : fom y 1 = foy y := by
  unfold fom foy
  rw [show (1 : Int).toNat = 1 from rfl, show before y 1 = 0 from rfl]
  omega
theorem yof_in (n : Int) : foy (yof n) ≤ n ∧ n < foy (yof n + 1) := by
  have := dayCivil_year n
  unfold foy yof
  omega
/-- The month: the last one whose first isn't after the day. -/
theorem mof_is {n m : Int} (h1 : 1 ≤ m) (h2 : m ≤ 12) (h3 : fom (yof n) m ≤ n) (h4 : n < fom (yof n) (m + 1)) : m = mof n := by
  rw [fom_succ _ h1] at h4
  have e := dayCivil_eq (n := n) (y := yof n) (m := m.toNat) (d := (n - fom (yof n) m + 1).toNat) (by omega) (by omega) (by omega) (by unfold mlen at h4; omega) (by unfold fom at *; omega)
  unfold mof
  rw [e]
  simp only
  omega
theorem mof_in (n : Int) : 1 ≤ mof n ∧ mof n ≤ 12 ∧ fom (yof n) (mof n) ≤ n ∧ n < fom (yof n) (mof n) + mlen (yof n) (mof n) := by
  have r := dayCivil_right n
  unfold mof fom yof mlen
  simp only [Int.toNat_natCast]
  omega
end Cal
namespace Cal
open Sw11
theorem mstart (n : Int) : 1 ≤ (12 : Int) ∧ (12 : Int) ≤ 12 ∧ n < fom (yof n) (12 + 1) := by
  refine ⟨by omega, by omega, ?_⟩
  have := yof_in n
  rw [show (12 : Int) + 1 = 13 from rfl, fom_13]
  omega
theorem mturn {n m : Int} (h1 : 1 ≤ m) (h2 : m ≤ 12) (h : n < fom (yof n) m) : 1 ≤ m - 1 ∧ m - 1 ≤ 12 ∧ n < fom (yof n) (m - 1 + 1) := by
  have := yof_in n
  refine ⟨?_, by omega, by rw [show m - 1 + 1 = m by omega]; exact h⟩
  rcases (by omega : m = 1 ∨ 1 ≤ m - 1) with e | e
  · subst e
    rw [fom_1] at h
    omega
  · exact e
end Cal
namespace Cal
open Sw11
end Cal
namespace Cal
open Sw11

theorem wday_is (n : Int) : (wday n : Int) = (n + 3) % 7 + 1 := by
  unfold wday; omega
theorem weekStart_is (n : Int) : weekStart n = n - (n + 3) % 7 := by
  unfold weekStart; rw [wday_is]; omega
theorem week1_is (y : Int) : week1 y = foy y + 3 - (foy y + 6) % 7 := by
  unfold week1; rw [weekStart_is, ys1970]; unfold foy; omega
theorem week1_facts (y : Int) : (week1 y + 3) % 7 = 0 ∧ foy y - 3 ≤ week1 y ∧ week1 y ≤ foy y + 3 := by
  rw [week1_is]; omega
theorem foy_mono {a b : Int} (h : a ≤ b) : foy a + 365 * (b - a) ≤ foy b := by
  unfold foy; rw [ys, ys]; omega
theorem foy_succ (y : Int) : foy (y + 1) = foy y + (if long y = true then 366 else 365) := by
  unfold foy; rw [ys_succ]; omega
theorem week1_mono {a b : Int} (h : a ≤ b) : week1 a ≤ week1 b := by
  rcases (by omega : a = b ∨ a + 1 ≤ b) with e | e
  · rw [e]; exact Int.le_refl _
  · have := foy_mono h
    have := week1_facts a
    have := week1_facts b
    omega
theorem week1_unique {a b n : Int} (h1 : week1 a ≤ n) (h2 : n < week1 (a + 1)) (h3 : week1 b ≤ n) (h4 : n < week1 (b + 1)) : a = b := by
  rcases (by omega : a = b ∨ a + 1 ≤ b ∨ b + 1 ≤ a) with h | h | h
  · exact h
  · have := week1_mono h; omega
  · have := week1_mono h; omega
theorem dayWeek_year (n : Int) : week1 (dayWeek n).1 ≤ n ∧ n < week1 ((dayWeek n).1 + 1) := by
  have hy := yof_in n
  have e : (dayWeek n).1 = if n < week1 (yof n) then yof n - 1 else if week1 (yof n + 1) ≤ n then yof n + 1 else yof n := rfl
  rw [e]
  have a1 := week1_facts (yof n - 1)
  have a2 := week1_facts (yof n)
  have a3 := week1_facts (yof n + 1)
  have a4 := week1_facts (yof n + 1 + 1)
  have m1 := foy_mono (show yof n - 1 ≤ yof n by omega)
  have m2 := foy_mono (show yof n + 1 ≤ yof n + 1 + 1 by omega)
  have e0 : yof n - 1 + 1 = yof n := by omega
  by_cases h1 : n < week1 (yof n)
  · rw [if_pos h1, e0]
    exact ⟨by omega, h1⟩
  · rw [if_neg h1]
    by_cases h2 : week1 (yof n + 1) ≤ n
    · rw [if_pos h2]
      exact ⟨h2, by omega⟩
    · rw [if_neg h2]
      exact ⟨by omega, by omega⟩
/-- **Whatever year has the day in its weeks is its week's year.** -/
theorem dayWeek_eq {n y : Int} (h1 : week1 y ≤ n) (h2 : n < week1 (y + 1)) : dayWeek n = (y, ((n - week1 y) / 7 + 1).toNat, wday n) := by
  have hy := dayWeek_year n
  have e : (dayWeek n).1 = y := week1_unique hy.1 hy.2 h1 h2
  have e2 : dayWeek n = ((dayWeek n).1, ((weekStart n - week1 (dayWeek n).1) / 7 + 1).toNat, wday n) := rfl
  rw [e2, e]
  have f := week1_facts y
  have w := weekStart_is n
  have : (weekStart n - week1 y) / 7 = (n - week1 y) / 7 := by omega
  rw [this]
/-- The year of a day's week. -/
def wyof (n : Int) : Int := (dayWeek n).1
theorem wyof_in (n : Int) : week1 (wyof n) ≤ n ∧ n < week1 (wyof n + 1) := dayWeek_year n
theorem wyof_eq {n y : Int} (h1 : week1 y ≤ n) (h2 : n < week1 (y + 1)) : wyof n = y := week1_unique (wyof_in n).1 (wyof_in n).2 h1 h2

end Cal
namespace Cal
open Sw11
theorem fm7 (a : Int) : Int.fmod a 7 = a % 7 := Int.fmod_eq_emod_of_nonneg a (by decide)
/-- The day of the week, the first of a week. -/
def wd (n : Int) : Int := Int.fmod (n + 3) 7 + 1
def fow (n : Int) : Int := n - wd n + 1
theorem wd_is (n : Int) : wd n = (n + 3) % 7 + 1 := by rw [wd, fm7]
theorem fow_week1 (y : Int) : fow (foy y + 3) = week1 y := by
  rw [week1_is, fow, wd_is]; omega
/-- The week's year, as the program has it: the year of the week's fourth day. -/
theorem wy_in (n : Int) : week1 (yof (fow n + 3)) ≤ n ∧ n < week1 (yof (fow n + 3) + 1) := by
  have h := yof_in (fow n + 3)
  have e : fow n = n - (n + 3) % 7 := by rw [fow, wd_is]; omega
  have a := week1_facts (yof (fow n + 3))
  have b := week1_facts (yof (fow n + 3) + 1)
  generalize yof (fow n + 3) = y at *
  omega
end Cal
namespace Cal
open Sw11

/-- Months counted one after another: the first day of one, its length. -/
def fz (z : Int) : Int := fom (z / 12) (z % 12 + 1)
def lz (z : Int) : Int := mlen (z / 12) (z % 12 + 1)
/-- A day's month, its day of the month. -/
def mz (n : Int) : Int := yof n * 12 + (mof n - 1)
def dom (n : Int) : Int := n - fom (yof n) (mof n) + 1

theorem fz_succ (z : Int) : fz (z + 1) = fz z + lz z := by
  unfold fz lz
  rcases (by omega : z % 12 = 11 ∨ z % 12 < 11) with h | h
  · rw [show (z + 1) / 12 = z / 12 + 1 by omega, show (z + 1) % 12 + 1 = 1 by omega, show z % 12 + 1 = 12 by omega, fom_1, ← fom_13, show (13 : Int) = 12 + 1 by rfl, fom_succ _ (by omega)]
  · rw [show (z + 1) / 12 = z / 12 by omega, show (z + 1) % 12 + 1 = z % 12 + 1 + 1 by omega, fom_succ _ (by omega)]
theorem lz_in (z : Int) : 28 ≤ lz z ∧ lz z ≤ 31 := mlen_in _ _
theorem fz_add (z : Int) : ∀ k : Nat, fz z + 28 * k ≤ fz (z + k)
  | 0 => by simp
  | k + 1 => by
    have := fz_add z k
    have e := fz_succ (z + k)
    have := lz_in (z + k)
    rw [show z + ((k + 1 : Nat) : Int) = z + k + 1 by omega]
    omega
theorem fz_mono {a b : Int} (h : a ≤ b) : fz a + 28 * (b - a) ≤ fz b := by
  have := fz_add a (b - a).toNat
  rw [show a + ((b - a).toNat : Int) = b by omega] at this
  omega
theorem fz_at {y m : Int} (h1 : 1 ≤ m) (h2 : m ≤ 12) : fz (y * 12 + (m - 1)) = fom y m := by
  unfold fz
  rw [show (y * 12 + (m - 1)) / 12 = y by omega, show (y * 12 + (m - 1)) % 12 + 1 = m by omega]
theorem lz_at {y m : Int} (h1 : 1 ≤ m) (h2 : m ≤ 12) : lz (y * 12 + (m - 1)) = mlen y m := by
  unfold lz
  rw [show (y * 12 + (m - 1)) / 12 = y by omega, show (y * 12 + (m - 1)) % 12 + 1 = m by omega]
theorem mz_in (n : Int) : fz (mz n) ≤ n ∧ n < fz (mz n + 1) := by
  have h := mof_in n
  rw [fz_succ]
  unfold mz
  rw [fz_at h.1 h.2.1, lz_at h.1 h.2.1]
  omega
theorem dom_is (n : Int) : dom n = n - fz (mz n) + 1 := by
  have h := mof_in n
  unfold mz dom
  rw [fz_at h.1 h.2.1]
theorem dom_c (n : Int) : dom n = ((dayCivil n).d : Int) := by
  have r := dayCivil_right n
  unfold dom yof mof fom
  rw [Int.toNat_natCast]
  omega
theorem yof_mz (n : Int) : yof n = mz n / 12 ∧ mof n = mz n % 12 + 1 := by
  have h := mof_in n
  unfold mz
  omega
/-- The first and the last month. -/
theorem fz_year (y : Int) : fz (y * 12) = foy y := by
  have := fz_at (y := y) (m := 1) (by omega) (by omega)
  rw [fom_1] at this
  rw [show y * 12 + (1 - 1) = y * 12 by omega] at this
  exact this

theorem within_iff (n a b : Int) : within n a b = true ↔ a ≤ n ∧ n ≤ b := by
  unfold within
  simp only [Bool.and_eq_true, decide_eq_true_eq]
theorem foy_first : foy (-999999) = -365961662 := by decide
theorem foy_last : foy 1000000 = 364522972 := by decide
theorem year_in (n : Int) : (-365961662 ≤ n ∧ n ≤ 364522971) ↔ (-999999 ≤ mz n / 12 ∧ mz n / 12 ≤ 999999) := by
  have h := mz_in n
  have a := fz_year (-999999)
  have b := fz_year 1000000
  rw [foy_first] at a
  rw [foy_last] at b
  constructor
  · intro hn
    have : ¬ mz n < -11999988 := fun hc => by
      have := fz_mono (show mz n + 1 ≤ -999999 * 12 by omega)
      omega
    have : ¬ 12000000 ≤ mz n := fun hc => by
      have := fz_mono (show 1000000 * 12 ≤ mz n by omega)
      omega
    omega
  · intro hn
    have := fz_mono (show -999999 * 12 ≤ mz n by omega)
    have := fz_mono (show mz n + 1 ≤ 1000000 * 12 by omega)
    omega

end Cal
namespace Cal
open Sw11
/-- The month of a day whose year is told. -/
def moy (_ n : Int) : Int := mof n
theorem moy_start {y n : Int} (h : y = yof n) : 1 ≤ (12 : Int) ∧ (12 : Int) ≤ 12 ∧ n < fom y (12 + 1) := by
  subst h; exact mstart n
theorem moy_turn {y n m : Int} (e : y = yof n) (h1 : 1 ≤ m) (h2 : m ≤ 12) (h : n < fom y m) : 1 ≤ m - 1 ∧ m - 1 ≤ 12 ∧ n < fom y (m - 1 + 1) := by
  subst e; exact mturn h1 h2 h
theorem moy_end {y n m : Int} (e : y = yof n) (h1 : 1 ≤ m) (h2 : m ≤ 12) (h3 : n < fom y (m + 1)) (h : ¬ n < fom y m) : m = moy y n := by
  subst e; exact mof_is h1 h2 (by omega) h3
theorem mz_tree (n : Int) : yof n * 12 + moy (yof n) n - 1 = mz n := by
  unfold mz moy; omega
def din (n : Int) : Int := dom n - 1
theorem din_tree (n : Int) : n - fz (mz n) = din n := by
  unfold din; rw [dom_is]; omega
end Cal
namespace Cal
open Sw11
end Cal
namespace Cal
open Sw11

/-! Working days -/
end Cal
namespace Cal
open Sw11

/-! Texts -/
theorem digit_nat (n : Nat) : (digit n).toNat = 48 + n % 10 := by
  unfold digit
  rw [UInt8.toNat_ofNat']
  omega
theorem digit_ne (n : Nat) : (digit n != 45) = true := by
  rw [bne_iff_ne]
  intro h
  have := congrArg UInt8.toNat h
  rw [digit_nat] at this
  simp at this
  omega
theorem digit_ne45 (n : Nat) : digit n ≠ 45 := by
  have := digit_ne n
  rwa [bne_iff_ne] at this
theorem digits_all : ∀ (f k n : Nat) (c : UInt8), c ∈ digits f k n → (c != 45) = true
  | 0, _, _, c, h => by simp [digits] at h
  | f + 1, k, n, c, h => by
    rw [digits] at h
    split at h
    · rw [List.mem_singleton] at h
      rw [h]; exact digit_ne n
    · rw [List.mem_append] at h
      rcases h with h | h
      · exact digits_all f _ _ c h
      · rw [List.mem_singleton] at h
        rw [h]; exact digit_ne n
theorem numberIn_snoc (l : Bytes) (c : UInt8) : numberIn (l ++ [c]) = 10 * numberIn l + (c.toNat - 48) := by
  unfold numberIn
  rw [List.foldl_append]
  rfl
theorem numberIn_digits : ∀ (f k n : Nat), n < 10 ^ f → numberIn (digits f k n) = n
  | 0, _, n, h => by
    have : n = 0 := by simpa using h
    rw [this]; rfl
  | f + 1, k, n, h => by
    rw [digits]
    split
    · have : numberIn [digit n] = 10 * 0 + ((digit n).toNat - 48) := rfl
      rw [this, digit_nat]
      omega
    · rw [numberIn_snoc, numberIn_digits f _ (n / 10) (by rw [Nat.pow_succ] at h; omega), digit_nat]
      omega
theorem digits_1 {n : Nat} (h : n < 10) : digits 4 1 n = [digit n] := by
  rw [digits, if_pos ⟨h, by omega⟩]
theorem digits_2 {n : Nat} (h : n < 100) : digits 4 2 n = [digit (n / 10), digit n] := by
  rw [digits, if_neg (by omega), digits, if_pos ⟨by omega, by omega⟩]
  rfl
theorem digits_3 {n : Nat} (h : n < 1000) : digits 6 3 n = [digit (n / 100), digit (n / 10), digit n] := by
  rw [digits, if_neg (by omega), digits, if_neg (by omega), digits, if_pos ⟨by omega, by omega⟩]
  rw [show n / 10 / 10 = n / 100 by omega]
  rfl
/-- A year's digits: four at least, more where it needs them. -/
theorem digits_y4 {n : Nat} (h : n < 10000) : digits 12 4 n = [digit (n / 1000), digit (n / 100), digit (n / 10), digit n] := by
  rw [digits, if_neg (by omega), digits, if_neg (by omega), digits, if_neg (by omega), digits, if_pos ⟨by omega, by omega⟩]
  rw [show n / 10 / 10 / 10 = n / 1000 by omega, show n / 10 / 10 = n / 100 by omega]
  rfl
theorem digits_more (f : Nat) {n : Nat} (h : 10 ≤ n) (k : Nat) : digits (f + 1) k n = digits f (k - 1) (n / 10) ++ [digit n] := by
  rw [digits, if_neg (by omega)]
theorem digits_y5 {n : Nat} (h : 10000 ≤ n) (h' : n < 100000) : digits 12 4 n = [digit (n / 10000), digit (n / 1000), digit (n / 100), digit (n / 10), digit n] := by
  rw [digits_more _ (by omega), digits_more _ (by omega), digits_more _ (by omega), digits_more _ (by omega), digits, if_pos ⟨by omega, by omega⟩]
  rw [show n / 10 / 10 / 10 / 10 = n / 10000 by omega, show n / 10 / 10 / 10 = n / 1000 by omega, show n / 10 / 10 = n / 100 by omega]
  rfl
theorem digits_y6 {n : Nat} (h : 100000 ≤ n) (h' : n < 1000000) : digits 12 4 n = [digit (n / 100000), digit (n / 10000), digit (n / 1000), digit (n / 100), digit (n / 10), digit n] := by
  rw [digits_more _ (by omega), digits_more _ (by omega), digits_more _ (by omega), digits_more _ (by omega), digits_more _ (by omega), digits, if_pos ⟨by omega, by omega⟩]
  rw [show n / 10 / 10 / 10 / 10 / 10 = n / 100000 by omega, show n / 10 / 10 / 10 / 10 = n / 10000 by omega, show n / 10 / 10 / 10 = n / 1000 by omega, show n / 10 / 10 = n / 100 by omega]
  rfl
theorem digits_y7 {n : Nat} (h : 1000000 ≤ n) (h' : n < 10000000) : digits 12 4 n = [digit (n / 1000000), digit (n / 100000), digit (n / 10000), digit (n / 1000), digit (n / 100), digit (n / 10), digit n] := by
  rw [digits_more _ (by omega), digits_more _ (by omega), digits_more _ (by omega), digits_more _ (by omega), digits_more _ (by omega), digits_more _ (by omega), digits, if_pos ⟨by omega, by omega⟩]
  rw [show n / 10 / 10 / 10 / 10 / 10 / 10 = n / 1000000 by omega, show n / 10 / 10 / 10 / 10 / 10 = n / 100000 by omega, show n / 10 / 10 / 10 / 10 = n / 10000 by omega, show n / 10 / 10 / 10 = n / 1000 by omega, show n / 10 / 10 = n / 100 by omega]
  rfl
theorem digits_year_len {n : Nat} (h : n < 10000000) : 4 ≤ (digits 12 4 n).length ∧ (digits 12 4 n).length ≤ 7 := by
  rcases (by omega : n < 10000 ∨ (10000 ≤ n ∧ n < 100000) ∨ (100000 ≤ n ∧ n < 1000000) ∨ (1000000 ≤ n ∧ n < 10000000)) with c | c | c | c
  · rw [digits_y4 c]; simp
  · rw [digits_y5 c.1 c.2]; simp
  · rw [digits_y6 c.1 c.2]; simp
  · rw [digits_y7 c.1 c.2]; simp
theorem digits_head (f k n : Nat) (h : 0 < f) : ∃ c r, digits f k n = c :: r ∧ c ≠ 45 := by
  cases e : digits f k n with
  | nil =>
    obtain ⟨g, rfl⟩ : ∃ g, f = g + 1 := ⟨f - 1, by omega⟩
    rw [digits] at e
    split at e
    · cases e
    · have := congrArg List.length e
      simp at this
  | cons c r =>
    refine ⟨c, r, rfl, ?_⟩
    have := digits_all f k n c (by rw [e]; exact List.mem_cons_self)
    rwa [bne_iff_ne] at this

/-! Pieces -/
theorem takeWhile_all {a : Bytes} (h : ∀ c ∈ a, (c != 45) = true) (r : Bytes) : (a ++ 45 :: r).takeWhile (fun c => c != 45) = a := by
  induction a with
  | nil => rfl
  | cons x a ih =>
    rw [List.cons_append, List.takeWhile_cons, if_pos (h x List.mem_cons_self), ih (fun c hc => h c (List.mem_cons_of_mem _ hc))]
theorem takeWhile_self {a : Bytes} (h : ∀ c ∈ a, (c != 45) = true) : a.takeWhile (fun c => c != 45) = a := by
  induction a with
  | nil => rfl
  | cons x a ih =>
    rw [List.takeWhile_cons, if_pos (h x List.mem_cons_self), ih (fun c hc => h c (List.mem_cons_of_mem _ hc))]
theorem pieces_cons {a : Bytes} (h : ∀ c ∈ a, (c != 45) = true) (r : Bytes) (f : Nat) : pieces (f + 1) (a ++ 45 :: r) = a :: pieces f r := by
  rw [pieces]
  simp only [takeWhile_all h r]
  rw [if_neg (by simp)]
  congr 2
  rw [List.drop_append, List.drop_of_length_le (by omega)]
  simp
theorem pieces_last {a : Bytes} (h : ∀ c ∈ a, (c != 45) = true) (f : Nat) : pieces (f + 1) a = [a] := by
  rw [pieces]
  simp only [takeWhile_self h]
  rw [if_pos trivial]

/-- The year, read out of a text. -/
theorem year_back {y : Int} (rest : Bytes) : ((yearText y ++ 45 :: rest).head? == some 45) = decide (y < 0) ∧
    (if ((yearText y ++ 45 :: rest).head? == some 45) = true then (yearText y ++ 45 :: rest).drop 1 else yearText y ++ 45 :: rest) = digits 12 4 y.natAbs ++ 45 :: rest := by
  unfold yearText
  by_cases h : y < 0
  · rw [if_pos h]
    simp [h]
  · rw [if_neg h]
    obtain ⟨c, r, e, hc⟩ := digits_head 12 4 y.natAbs (by omega)
    rw [e]
    simp [h, hc]

theorem find_two {α : Type} (p : α → Bool) (a b : α) : [a, b].find? p = if p a = true then some a else if p b = true then some b else none := by
  simp only [List.find?]
  cases p a <;> cases p b <;> rfl
theorem find_one {α : Type} (p : α → Bool) (a : α) : [a].find? p = if p a = true then some a else none := by
  simp only [List.find?]
  cases p a <;> rfl

/-- **A text of three pieces.** -/
theorem read_three {y : Int} {a b : Bytes} (ha : ∀ c ∈ a, (c != 45) = true) (hb : ∀ c ∈ b, (c != 45) = true) (la : a.length ≤ 3) (lb : b.length ≤ 3) (hy : y.natAbs ≤ 2000000) :
    readDay (yearText y ++ 45 :: (a ++ 45 :: b)) =
    (if (isDay (⟨y, numberIn a, numberIn b⟩ : Civil).day && textOf 0 (⟨y, numberIn a, numberIn b⟩ : Civil).day == yearText y ++ 45 :: (a ++ 45 :: b)) = true then some (⟨y, numberIn a, numberIn b⟩ : Civil).day
     else if (isDay (week1 y + 7 * ((numberIn (a.drop 1) : Int) - 1) + ((numberIn b : Int) - 1)) && textOf 1 (week1 y + 7 * ((numberIn (a.drop 1) : Int) - 1) + ((numberIn b : Int) - 1)) == yearText y ++ 45 :: (a ++ 45 :: b)) = true then some (week1 y + 7 * ((numberIn (a.drop 1) : Int) - 1) + ((numberIn b : Int) - 1))
     else none) := by
  have yb := year_back (y := y) (a ++ 45 :: b)
  unfold readDay
  simp only [yb.1, decide_eq_true_eq]
  have e2 : (if y < 0 then (yearText y ++ 45 :: (a ++ 45 :: b)).drop 1 else yearText y ++ 45 :: (a ++ 45 :: b)) = digits 12 4 y.natAbs ++ 45 :: (a ++ 45 :: b) := by
    have := yb.2
    rw [yb.1] at this
    simpa only [decide_eq_true_eq] using this
  rw [e2, pieces_cons (digits_all 12 4 y.natAbs) _ 39, pieces_cons ha _ 38, pieces_last hb 37]
  have en : numberIn (digits 12 4 y.natAbs) = y.natAbs := numberIn_digits 12 4 _ (by omega)
  have ey : (if y < 0 then -(numberIn ([digits 12 4 y.natAbs, a, b].getD 0 []) : Int) else (numberIn ([digits 12 4 y.natAbs, a, b].getD 0 []) : Int)) = y := by
    show (if y < 0 then -(numberIn (digits 12 4 y.natAbs) : Int) else (numberIn (digits 12 4 y.natAbs) : Int)) = y
    rw [en]
    split <;> omega
  rw [ey]
  have ly := digits_year_len (n := y.natAbs) (by omega)
  rw [if_neg]
  · simp only [find_two]
    split
    · simp
    · split <;> simp
  · simp
    omega
/-- **A text of two pieces.** -/
theorem read_two {y : Int} {b : Bytes} (hb : ∀ c ∈ b, (c != 45) = true) (lb : b.length ≤ 3) (hy : y.natAbs ≤ 2000000) :
    readDay (yearText y ++ 45 :: b) =
    (if (isDay (yearStart y - yearStart 1970 + (numberIn b : Int) - 1) && textOf 2 (yearStart y - yearStart 1970 + (numberIn b : Int) - 1) == yearText y ++ 45 :: b) = true then some (yearStart y - yearStart 1970 + (numberIn b : Int) - 1) else none) := by
  have yb := year_back (y := y) b
  unfold readDay
  simp only [yb.1, decide_eq_true_eq]
  have e2 : (if y < 0 then (yearText y ++ 45 :: b).drop 1 else yearText y ++ 45 :: b) = digits 12 4 y.natAbs ++ 45 :: b := by
    have := yb.2
    rw [yb.1] at this
    simpa only [decide_eq_true_eq] using this
  rw [e2, pieces_cons (digits_all 12 4 y.natAbs) _ 39, pieces_last hb 38]
  have en : numberIn (digits 12 4 y.natAbs) = y.natAbs := numberIn_digits 12 4 _ (by omega)
  have ey : (if y < 0 then -(numberIn ([digits 12 4 y.natAbs, b].getD 0 []) : Int) else (numberIn ([digits 12 4 y.natAbs, b].getD 0 []) : Int)) = y := by
    show (if y < 0 then -(numberIn (digits 12 4 y.natAbs) : Int) else (numberIn (digits 12 4 y.natAbs) : Int)) = y
    rw [en]
    split <;> omega
  rw [ey]
  have ly := digits_year_len (n := y.natAbs) (by omega)
  rw [if_neg]
  · simp only [find_one]
    split <;> simp
  · simp
    omega

/-! Days written -/
theorem year_near {n : Int} (hn : isDay n = true) : -999999 ≤ (dayCivil n).y ∧ (dayCivil n).y ≤ 999999 := by
  have := (year_in n).mp ((isDay_iff n).mp hn)
  have e := yof_mz n
  unfold yof at e
  omega
theorem wyear_near {n : Int} (hn : isDay n = true) : -1000000 ≤ (dayWeek n).1 ∧ (dayWeek n).1 ≤ 1000000 := by
  have := year_near hn
  have e : (dayWeek n).1 = if n < week1 (dayCivil n).y then (dayCivil n).y - 1 else if week1 ((dayCivil n).y + 1) ≤ n then (dayCivil n).y + 1 else (dayCivil n).y := rfl
  rw [e]
  split
  · omega
  · split <;> omega
theorem week_near (n : Int) : 1 ≤ (dayWeek n).2.1 ∧ (dayWeek n).2.1 ≤ 53 ∧ 1 ≤ (dayWeek n).2.2 ∧ (dayWeek n).2.2 ≤ 7 ∧ n = week1 (dayWeek n).1 + 7 * (((dayWeek n).2.1 : Int) - 1) + (((dayWeek n).2.2 : Int) - 1) := by
  have h := dayWeek_year n
  generalize hy : (dayWeek n).1 = y at h
  rw [dayWeek_eq h.1 h.2]
  simp only
  have w := wday_is n
  have a := week1_facts y
  have b := week1_facts (y + 1)
  have f := foy_succ y
  split at f <;> omega
theorem yday_near (n : Int) : 1 ≤ before (dayCivil n).y (dayCivil n).m + (dayCivil n).d ∧ before (dayCivil n).y (dayCivil n).m + (dayCivil n).d ≤ 366 ∧ n = yearStart (dayCivil n).y - 719528 + ((before (dayCivil n).y (dayCivil n).m + (dayCivil n).d : Nat) : Int) - 1 := by
  have r := dayCivil_right n
  have y := dayCivil_year n
  have s := ys_succ (dayCivil n).y
  split at s <;> omega

theorem text0 {n : Int} : textOf 0 n = yearText (dayCivil n).y ++ 45 :: ([digit ((dayCivil n).m / 10), digit (dayCivil n).m] ++ 45 :: [digit ((dayCivil n).d / 10), digit (dayCivil n).d]) := by
  have r := dayCivil_right n
  have md := monthDays_in (dayCivil n).y (dayCivil n).m
  unfold textOf
  simp only
  rw [if_pos trivial, digits_2 (by omega), digits_2 (by omega)]
theorem text1 {n : Int} : textOf 1 n = yearText (dayWeek n).1 ++ 45 :: ([87, digit ((dayWeek n).2.1 / 10), digit (dayWeek n).2.1] ++ 45 :: [digit (dayWeek n).2.2]) := by
  have r := week_near n
  unfold textOf
  simp only
  rw [if_neg (by omega), if_pos trivial, digits_2 (by omega), digits_1 (by omega)]
  rfl
theorem text2 {n : Int} : textOf 2 n = yearText (dayCivil n).y ++ 45 :: [digit ((before (dayCivil n).y (dayCivil n).m + (dayCivil n).d) / 100), digit ((before (dayCivil n).y (dayCivil n).m + (dayCivil n).d) / 10), digit (before (dayCivil n).y (dayCivil n).m + (dayCivil n).d)] := by
  have r := yday_near n
  unfold textOf
  simp only
  rw [if_neg (by omega), if_neg (by omega), digits_3 (by omega)]

theorem num1 {k : Nat} (h : k < 10) : numberIn [digit k] = k := by
  have := numberIn_digits 4 1 k (by omega)
  rwa [digits_1 h] at this
theorem num2 {k : Nat} (h : k < 100) : numberIn [digit (k / 10), digit k] = k := by
  have := numberIn_digits 4 2 k (by omega)
  rwa [digits_2 h] at this
theorem num3 {k : Nat} (h : k < 1000) : numberIn [digit (k / 100), digit (k / 10), digit k] = k := by
  have := numberIn_digits 6 3 k (by omega)
  rwa [digits_3 h] at this

theorem no45_2 (a b : Nat) : ∀ c ∈ [digit a, digit b], (c != 45) = true := by
  intro c hc
  simp only [List.mem_cons, List.not_mem_nil, or_false] at hc
  rcases hc with h | h <;> rw [h] <;> exact digit_ne _
theorem no45_1 (a : Nat) : ∀ c ∈ [digit a], (c != 45) = true := by
  intro c hc
  simp only [List.mem_cons, List.not_mem_nil, or_false] at hc
  rw [hc]; exact digit_ne _
theorem no45_3 (a b d : Nat) : ∀ c ∈ [digit a, digit b, digit d], (c != 45) = true := by
  intro c hc
  simp only [List.mem_cons, List.not_mem_nil, or_false] at hc
  rcases hc with h | h | h <;> rw [h] <;> exact digit_ne _
theorem no45_w (b d : Nat) : ∀ c ∈ [87, digit b, digit d], (c != 45) = true := by
  intro c hc
  simp only [List.mem_cons, List.not_mem_nil, or_false] at hc
  rcases hc with h | h | h
  · rw [h]; decide
  · rw [h]; exact digit_ne _
  · rw [h]; exact digit_ne _

/-- No text is of the first two forms at once: the third sign from its end. -/
theorem third_end (l : Bytes) (a b c : UInt8) : (l ++ [a, b, c]).reverse[2]? = some a := by
  rw [List.reverse_append]
  rfl
theorem text01 (n m : Int) : textOf 0 n ≠ textOf 1 m := by
  intro h
  rw [text0, text1] at h
  have a := third_end (yearText (dayCivil n).y ++ 45 :: [digit ((dayCivil n).m / 10), digit (dayCivil n).m]) 45 (digit ((dayCivil n).d / 10)) (digit (dayCivil n).d)
  have b := third_end (yearText (dayWeek m).1 ++ 45 :: [87, digit ((dayWeek m).2.1 / 10)]) (digit (dayWeek m).2.1) 45 (digit (dayWeek m).2.2)
  have e : yearText (dayCivil n).y ++ 45 :: [digit ((dayCivil n).m / 10), digit (dayCivil n).m] ++ [45, digit ((dayCivil n).d / 10), digit (dayCivil n).d] = yearText (dayWeek m).1 ++ 45 :: [87, digit ((dayWeek m).2.1 / 10)] ++ [digit (dayWeek m).2.1, 45, digit (dayWeek m).2.2] := by
    simpa using h
  rw [e, b] at a
  exact digit_ne45 _ (Option.some.inj a)

/-- **What's written is read.** -/
theorem readDay_some {f : Nat} {n : Int} (hf : f ≤ 2) (hn : isDay n = true) : readDay (textOf f n) = some n := by
  have yn := year_near hn
  have wn := wyear_near hn
  have r := dayCivil_right n
  have md := monthDays_in (dayCivil n).y (dayCivil n).m
  have wk := week_near n
  have yd := yday_near n
  rcases (by omega : f = 0 ∨ f = 1 ∨ f = 2) with e | e | e
  · subst e
    rw [text0, read_three (no45_2 _ _) (no45_2 _ _) (by simp) (by simp) (by omega), ← text0, num2 (by omega), num2 (by omega)]
    have e : (⟨(dayCivil n).y, (dayCivil n).m, (dayCivil n).d⟩ : Civil).day = n := by
      unfold Civil.day
      simp only
      rw [ys1970]
      omega
    rw [e, if_pos]
    simp [hn]
  · subst e
    rw [text1, read_three (no45_w _ _) (no45_1 _) (by simp) (by simp) (by omega), ← text1]
    rw [if_neg]
    · have e : week1 (dayWeek n).1 + 7 * ((numberIn ([87, digit ((dayWeek n).2.1 / 10), digit (dayWeek n).2.1].drop 1) : Int) - 1) + ((numberIn [digit (dayWeek n).2.2] : Int) - 1) = n := by
        rw [List.drop_succ_cons, List.drop_zero, num2 (by omega), num1 (by omega)]
        exact wk.2.2.2.2.symm
      rw [e, if_pos]
      simp [hn]
    · simp only [Bool.and_eq_true, not_and]
      intro _ h
      exact text01 _ _ (by simpa using h)
  · subst e
    rw [text2, read_two (no45_3 _ _ _) (by simp) (by omega), ← text2, num3 (by omega), ys1970]
    have e : yearStart (dayCivil n).y - 719528 + ((before (dayCivil n).y (dayCivil n).m + (dayCivil n).d : Nat) : Int) - 1 = n := yd.2.2.symm
    rw [e, if_pos]
    simp [hn]
/-- **What's read is a day, and written so.** -/
theorem readDay_sound {t : Bytes} {n : Int} (h : readDay t = some n) : isDay n = true ∧ ∃ f, f ≤ 2 ∧ textOf f n = t := by
  unfold readDay at h
  simp only at h
  generalize pieces 40 (if (t.head? == some 45) = true then t.drop 1 else t) = p at h
  generalize (if (t.head? == some 45) = true then -(numberIn (p.getD 0 []) : Int) else (numberIn (p.getD 0 []) : Int)) = y at h
  split at h
  · cases h
  · rw [Option.map_eq_some_iff] at h
    obtain ⟨x, hx, e⟩ := h
    have p := List.find?_some hx
    have m := List.mem_of_find?_eq_some hx
    simp only [Bool.and_eq_true, beq_iff_eq] at p
    rw [e] at p
    refine ⟨p.1, x.1, ?_, p.2⟩
    split at m
    · simp only [List.mem_cons, List.not_mem_nil, or_false] at m
      rcases m with m | m <;> rw [m] <;> simp
    · simp only [List.mem_cons, List.not_mem_nil, or_false] at m
      rw [m]; simp
    · cases m
theorem readDay_none {t : Bytes} (h : ∀ f n, f ≤ 2 → isDay n = true → textOf f n ≠ t) : readDay t = none := by
  cases e : readDay t with
  | none => rfl
  | some n =>
    obtain ⟨a, f, b, c⟩ := readDay_sound e
    exact absurd c (h f n b a)

def bytesOf (l : List Int) : Bytes := l.map fun (z : Int) => UInt8.ofNat z.toNat
theorem read_f (l : List Int) : PySw11.read l = if within (l.length : Int) 0 32 = false then [-2] else match readDay (bytesOf l) with
    | some n => [0, n]
    | none => [-1] := by
  show flat (if within (l.length : Int) 0 32 = false then says (-2) else match readDay (bytesOf l) with
    | some n => tells [n]
    | none => says (-1)) = _
  rw [flat_if]
  cases readDay (bytesOf l) <;> rfl
theorem read_yes {l : List Int} {f : Nat} {n : Int} (hl : l.length ≤ 32) (hf : f ≤ 2) (hn : -365961662 ≤ n ∧ n ≤ 364522971) (ht : textOf f n = bytesOf l) : PySw11.read l = [0, n] := by
  rw [read_f, if_neg (by rw [Bool.not_eq_false, within_iff]; omega), ← ht, readDay_some hf ((isDay_iff n).mpr hn)]
theorem read_no {l : List Int} (hl : l.length ≤ 32) (h : ∀ f n, f ≤ 2 → (-365961662 ≤ n ∧ n ≤ 364522971) → textOf f n ≠ bytesOf l) : PySw11.read l = [-1] := by
  rw [read_f, if_neg (by rw [Bool.not_eq_false, within_iff]; omega), readDay_none (fun f n a b => h f n a ((isDay_iff n).mp b))]

/-- A text's signs as numbers. -/
def codes (t : Bytes) : List Int := t.map fun (c : UInt8) => (c.toNat : Int)
end Cal
namespace Cal
open Sw11
/-! Working days counted one by one, by whatever program: where it stands, how many are left. -/
/-! A finger in a rising list: what stands before it is smaller. -/
/-! Holidays looked at one after another. -/
end Cal
namespace Cal
open Sw11
/-! Working days by whole weeks, then put off by holidays: the program's own way. -/
end Cal
namespace Cal
open Sw11
/-! Texts read as the program reads them: the year and what stands behind it, by places from the end. -/
def numT (l : List Int) : Int := l.foldl (fun n c => n * 10 + c - 48) 0
def yrT (l : List Int) : Int := if l.take 1 = [45] then -(numT (l.drop 1)) else numT l
/-- a slice's end as a place -/
def sx (n d : Nat) : Option Int → Nat
  | none => d
  | some v => if v < 0 then (v + (n : Int)).toNat else min v.toNat n
def cutI (l : List Int) (lo hi : Option Int) : List Int := (l.drop (sx l.length 0 lo)).take (sx l.length l.length hi - sx l.length 0 lo)
def told0 (l : List Int) : Int := fz (yrT (cutI l none (some (-6))) * 12 + numT (cutI l (some (-5)) (some (-3))) - 1) + numT (cutI l (some (-2)) none) - 1
def told1 (l : List Int) : Int := week1 (yrT (cutI l none (some (-6)))) + (numT (cutI l (some (-4)) (some (-2))) - 1) * 7 + numT (cutI l (some (-1)) none) - 1
def told2 (l : List Int) : Int := foy (yrT (cutI l none (some (-4)))) + numT (cutI l (some (-3)) none) - 1
def tld (f : Int) (l : List Int) : Int := if f = 0 then told0 l else if f = 1 then told1 l else told2 l
theorem numT_snoc (l : List Int) (c : Int) : numT (l ++ [c]) = numT l * 10 + c - 48 := by
  unfold numT
  rw [List.foldl_append]
  rfl
theorem codes_app (a b : Bytes) : codes (a ++ b) = codes a ++ codes b := by unfold codes; rw [List.map_append]
theorem fold_codes : ∀ (l : Bytes) (a : Nat), (∀ c ∈ l, 48 ≤ c.toNat) → (codes l).foldl (fun n c => n * 10 + c - 48) (a : Int) = ((l.foldl (fun (n : Nat) (c : UInt8) => 10 * n + (c.toNat - 48)) a : Nat) : Int)
  | [], _, _ => rfl
  | c :: l, a, h => by
    have hc := h c List.mem_cons_self
    rw [List.foldl_cons, ← fold_codes l _ (fun x hx => h x (List.mem_cons_of_mem _ hx))]
    show (codes l).foldl (fun n c => n * 10 + c - 48) ((a : Int) * 10 + (c.toNat : Int) - 48) = _
    rw [show (a : Int) * 10 + (c.toNat : Int) - 48 = ((10 * a + (c.toNat - 48) : Nat) : Int) by omega]
theorem numT_codes (l : Bytes) (h : ∀ c ∈ l, 48 ≤ c.toNat) : numT (codes l) = (numberIn l : Int) := fold_codes l 0 h
theorem digits_ge : ∀ (f k n : Nat) (c : UInt8), c ∈ digits f k n → 48 ≤ c.toNat
  | 0, _, _, c, h => by simp [digits] at h
  | f + 1, k, n, c, h => by
    rw [digits] at h
    split at h
    · rw [List.mem_singleton] at h
      rw [h, digit_nat]; omega
    · rw [List.mem_append] at h
      rcases h with h | h
      · exact digits_ge f _ _ c h
      · rw [List.mem_singleton] at h
        rw [h, digit_nat]; omega
theorem yrT_back {y : Int} (hy : y.natAbs < 10 ^ 12) : yrT (codes (yearText y)) = y := by
  have e : numT (codes (digits 12 4 y.natAbs)) = (y.natAbs : Int) := by
    rw [numT_codes _ (digits_ge 12 4 _), numberIn_digits 12 4 _ hy]
  unfold yearText yrT
  by_cases h : y < 0
  · rw [if_pos h, codes_app]
    have e1 : (codes [45] ++ codes (digits 12 4 y.natAbs)).take 1 = [45] := rfl
    have e2 : (codes [45] ++ codes (digits 12 4 y.natAbs)).drop 1 = codes (digits 12 4 y.natAbs) := rfl
    rw [e1, e2, if_pos rfl, e]
    omega
  · rw [if_neg h, List.nil_append, if_neg, e]
    · omega
    · obtain ⟨c, r, ec, _⟩ := digits_head 12 4 y.natAbs (by omega)
      have hc := digits_ge 12 4 y.natAbs c (by rw [ec]; exact List.mem_cons_self)
      rw [ec]
      intro q
      have q' : [((c.toNat : Nat) : Int)] = [45] := q
      have := (List.cons.inj q').1
      omega
theorem drop_tail {Y T : List Int} (k : Nat) : (Y ++ T).drop (Y.length + k) = T.drop k := by
  rw [List.drop_append, List.drop_of_length_le (by omega), List.nil_append]
  congr 1
  omega
theorem cut_head {Y T : List Int} {k : Int} (hk : 0 < k) (h : (T.length : Int) = k) : cutI (Y ++ T) none (some (-k)) = Y := by
  unfold cutI sx
  simp only
  rw [if_pos (by omega), List.length_append, List.drop_zero, show (-k + ((Y.length + T.length : Nat) : Int)).toNat - 0 = Y.length by omega, List.take_append_of_le_length (Nat.le_refl _), List.take_length]
theorem cut_mid {Y T : List Int} {a b : Int} (hb : 0 < b) (hab : b ≤ a) (h : a ≤ (T.length : Int)) : cutI (Y ++ T) (some (-a)) (some (-b)) = (T.drop (T.length - a.toNat)).take (a - b).toNat := by
  unfold cutI sx
  simp only
  rw [if_pos (by omega), if_pos (by omega), List.length_append, show (-a + ((Y.length + T.length : Nat) : Int)).toNat = Y.length + (T.length - a.toNat) by omega, drop_tail]
  congr 1
  omega
theorem cut_end {Y T : List Int} {a : Int} (ha : 0 < a) (h : a ≤ (T.length : Int)) : cutI (Y ++ T) (some (-a)) none = T.drop (T.length - a.toNat) := by
  unfold cutI sx
  simp only
  rw [if_pos (by omega), List.length_append, show (-a + ((Y.length + T.length : Nat) : Int)).toNat = Y.length + (T.length - a.toNat) by omega, drop_tail, List.take_of_length_le]
  rw [List.length_drop]
  omega
theorem codes_0 (n : Int) : codes (textOf 0 n) = codes (yearText (dayCivil n).y) ++ [45, ((48 + (dayCivil n).m / 10 % 10 : Nat) : Int), ((48 + (dayCivil n).m % 10 : Nat) : Int), 45, ((48 + (dayCivil n).d / 10 % 10 : Nat) : Int), ((48 + (dayCivil n).d % 10 : Nat) : Int)] := by
  rw [text0, codes_app]
  congr 1
  show [45, (((digit ((dayCivil n).m / 10)).toNat : Nat) : Int), (((digit (dayCivil n).m).toNat : Nat) : Int), 45, (((digit ((dayCivil n).d / 10)).toNat : Nat) : Int), (((digit (dayCivil n).d).toNat : Nat) : Int)] = _
  rw [digit_nat, digit_nat, digit_nat, digit_nat]
theorem codes_1 (n : Int) : codes (textOf 1 n) = codes (yearText (dayWeek n).1) ++ [45, 87, ((48 + (dayWeek n).2.1 / 10 % 10 : Nat) : Int), ((48 + (dayWeek n).2.1 % 10 : Nat) : Int), 45, ((48 + (dayWeek n).2.2 % 10 : Nat) : Int)] := by
  rw [text1, codes_app]
  congr 1
  show [45, 87, (((digit ((dayWeek n).2.1 / 10)).toNat : Nat) : Int), (((digit (dayWeek n).2.1).toNat : Nat) : Int), 45, (((digit (dayWeek n).2.2).toNat : Nat) : Int)] = _
  rw [digit_nat, digit_nat, digit_nat]
theorem codes_2 (n : Int) : codes (textOf 2 n) = codes (yearText (dayCivil n).y) ++ [45, ((48 + (before (dayCivil n).y (dayCivil n).m + (dayCivil n).d) / 100 % 10 : Nat) : Int), ((48 + (before (dayCivil n).y (dayCivil n).m + (dayCivil n).d) / 10 % 10 : Nat) : Int), ((48 + (before (dayCivil n).y (dayCivil n).m + (dayCivil n).d) % 10 : Nat) : Int)] := by
  rw [text2, codes_app]
  congr 1
  show [45, (((digit ((before (dayCivil n).y (dayCivil n).m + (dayCivil n).d) / 100)).toNat : Nat) : Int), (((digit ((before (dayCivil n).y (dayCivil n).m + (dayCivil n).d) / 10)).toNat : Nat) : Int), (((digit (before (dayCivil n).y (dayCivil n).m + (dayCivil n).d)).toNat : Nat) : Int)] = _
  rw [digit_nat, digit_nat, digit_nat]
theorem numT_2 (a b : Int) : numT [a, b] = (a - 48) * 10 + (b - 48) := by unfold numT; simp; omega
theorem numT_1 (a : Int) : numT [a] = a - 48 := by unfold numT; simp
theorem numT_3 (a b c : Int) : numT [a, b, c] = (a - 48) * 100 + (b - 48) * 10 + (c - 48) := by unfold numT; simp; omega
/-- **What is written is read back**, form by form. -/
theorem told_back {f : Nat} {n : Int} (hf : f ≤ 2) (hn : -365961662 ≤ n ∧ n ≤ 364522971) : tld f (codes (textOf f n)) = n := by
  have hd := (isDay_iff n).mpr hn
  have y := year_near hd
  have w := wyear_near hd
  have r := dayCivil_right n
  have md := monthDays_in (dayCivil n).y (dayCivil n).m
  have k := week_near n
  have yd := yday_near n
  rcases (by omega : f = 0 ∨ f = 1 ∨ f = 2) with e | e | e <;> subst e
  · show told0 (codes (textOf 0 n)) = n
    rw [codes_0]
    unfold told0
    rw [cut_head (k := 6) (by decide) rfl, cut_mid (a := 5) (b := 3) (by decide) (by decide) (by simp), cut_end (a := 2) (by decide) (by simp), yrT_back (by omega)]
    have e1 := numT_2 ((48 + (dayCivil n).m / 10 % 10 : Nat) : Int) ((48 + (dayCivil n).m % 10 : Nat) : Int)
    have e2 := numT_2 ((48 + (dayCivil n).d / 10 % 10 : Nat) : Int) ((48 + (dayCivil n).d % 10 : Nat) : Int)
    show fz ((dayCivil n).y * 12 + numT [((48 + (dayCivil n).m / 10 % 10 : Nat) : Int), ((48 + (dayCivil n).m % 10 : Nat) : Int)] - 1) + numT [((48 + (dayCivil n).d / 10 % 10 : Nat) : Int), ((48 + (dayCivil n).d % 10 : Nat) : Int)] - 1 = n
    rw [e1, e2]
    have e3 : (dayCivil n).y * 12 + ((((48 + (dayCivil n).m / 10 % 10 : Nat) : Int) - 48) * 10 + (((48 + (dayCivil n).m % 10 : Nat) : Int) - 48)) - 1 = mz n := by
      unfold mz yof mof
      omega
    rw [e3]
    have e4 := dom_is n
    have e5 := dom_c n
    omega
  · show told1 (codes (textOf 1 n)) = n
    rw [codes_1]
    unfold told1
    rw [cut_head (k := 6) (by decide) rfl, cut_mid (a := 4) (b := 2) (by decide) (by decide) (by simp), cut_end (a := 1) (by decide) (by simp), yrT_back (by omega)]
    have e1 := numT_2 ((48 + (dayWeek n).2.1 / 10 % 10 : Nat) : Int) ((48 + (dayWeek n).2.1 % 10 : Nat) : Int)
    have e2 := numT_1 ((48 + (dayWeek n).2.2 % 10 : Nat) : Int)
    show week1 (dayWeek n).1 + (numT [((48 + (dayWeek n).2.1 / 10 % 10 : Nat) : Int), ((48 + (dayWeek n).2.1 % 10 : Nat) : Int)] - 1) * 7 + numT [((48 + (dayWeek n).2.2 % 10 : Nat) : Int)] - 1 = n
    rw [e1, e2]
    omega
  · show told2 (codes (textOf 2 n)) = n
    rw [codes_2]
    unfold told2
    rw [cut_head (k := 4) (by decide) rfl, cut_end (a := 3) (by decide) (by simp), yrT_back (by omega)]
    have e1 := numT_3 ((48 + (before (dayCivil n).y (dayCivil n).m + (dayCivil n).d) / 100 % 10 : Nat) : Int) ((48 + (before (dayCivil n).y (dayCivil n).m + (dayCivil n).d) / 10 % 10 : Nat) : Int) ((48 + (before (dayCivil n).y (dayCivil n).m + (dayCivil n).d) % 10 : Nat) : Int)
    show foy (dayCivil n).y + numT [((48 + (before (dayCivil n).y (dayCivil n).m + (dayCivil n).d) / 100 % 10 : Nat) : Int), ((48 + (before (dayCivil n).y (dayCivil n).m + (dayCivil n).d) / 10 % 10 : Nat) : Int), ((48 + (before (dayCivil n).y (dayCivil n).m + (dayCivil n).d) % 10 : Nat) : Int)] - 1 = n
    rw [e1]
    unfold foy
    omega
theorem bytes_codes (t : Bytes) : bytesOf (codes t) = t := by
  unfold bytesOf codes
  rw [List.map_map]
  conv => rhs; rw [← List.map_id t]
  refine List.map_congr_left fun c _ => ?_
  show UInt8.ofNat (((c.toNat : Nat) : Int).toNat) = c
  rw [Int.toNat_natCast]
  exact UInt8.ofNat_toNat
theorem codes_bytes {l : List Int} (h : ∀ x ∈ l, 0 ≤ x ∧ x ≤ 255) : codes (bytesOf l) = l := by
  unfold bytesOf codes
  rw [List.map_map]
  conv => rhs; rw [← List.map_id l]
  refine List.map_congr_left fun z hz => ?_
  have := h z hz
  show (((UInt8.ofNat z.toNat).toNat : Nat) : Int) = z
  rw [UInt8.toNat_ofNat']
  omega
theorem read_hit {l : List Int} {f : Nat} {n : Int} (hl : l.length ≤ 32) (hf : f ≤ 2) (hn : -365961662 ≤ n ∧ n ≤ 364522971) (e : codes (textOf f n) = l) : PySw11.read l = [0, n] :=
  read_yes hl hf hn (by rw [← e, bytes_codes])
theorem read_miss {l : List Int} (hl : l.length ≤ 32) (hb : ∀ x ∈ l, 0 ≤ x ∧ x ≤ 255) (h : ∀ f : Nat, f ≤ 2 → (-365961662 ≤ tld f l ∧ tld f l ≤ 364522971) → codes (textOf f (tld f l)) ≠ l) : PySw11.read l = [-1] := by
  refine read_no hl fun f n hf hn e => ?_
  have e1 : codes (textOf f n) = l := by rw [e, codes_bytes hb]
  have e2 := told_back hf hn
  rw [e1] at e2
  exact h f hf (by rw [e2]; exact hn) (by rw [e2]; exact e1)
theorem read_long {l : List Int} (hl : 32 < l.length) : PySw11.read l = [-2] := by
  rw [read_f, if_pos]
  rw [Bool.eq_false_iff, ne_eq, within_iff]
  omega
end Cal
set_option linter.all false
set_option maxRecDepth 100000
/-! THE HAND LAYER, for ints, bools, texts, own classes, lists, tuples, dicts, comprehensions, walks over dicts, enumerate, zip, reversed, texts, calls, loops. Paste it whole ahead of your own text; what your proof does not reach may be deleted. -/
namespace L2
open PySem PySem.Spec PyProof.Rows

/-- a key: an int or a str -/
abbrev Key := Sum Int Str
def keyIs : Key → Value → Bool
  | .inl k, v => Value.isInt k v
  | .inr x, v => Value.isStrOf x v
def keyH (w : World) : Key → Int
  | .inl k => hashInt k
  | .inr x => hashStr w x
theorem keyIs_shape : ∀ {k : Key} {v : Value}, keyIs k v = true → (∃ i t, k = Sum.inl i ∧ v = Value.int i t) ∨ (∃ x t, k = Sum.inr x ∧ v = Value.str x t)
  | .inl i, v, h => by
    obtain ⟨t, e⟩ := Value.isInt_shape (k := i) (v := v) h
    exact .inl ⟨i, t, rfl, e⟩
  | .inr x, v, h => by
    obtain ⟨t, e⟩ := Value.isStrOf_shape (x := x) (v := v) h
    exact .inr ⟨x, t, rfl, e⟩
theorem key_ll (a b : Int) : decide ((Sum.inl a : Key) = Sum.inl b) = (a == b) := by
  by_cases e : a = b
  · subst e; simp
  · have h : ¬ (Sum.inl a : Key) = Sum.inl b := fun q => e (Sum.inl.inj q)
    rw [decide_eq_false h]
    exact (beq_eq_false_iff_ne.mpr e).symm
theorem key_rr (a b : Str) : decide ((Sum.inr a : Key) = Sum.inr b) = decide (a = b) := by
  by_cases e : a = b
  · subst e; simp
  · have h : ¬ (Sum.inr a : Key) = Sum.inr b := fun q => e (Sum.inr.inj q)
    rw [decide_eq_false h, decide_eq_false e]
theorem key_lr (a : Int) (b : Str) : decide ((Sum.inl a : Key) = Sum.inr b) = false := decide_eq_false (fun q => nomatch q)
theorem key_rl (a : Str) (b : Int) : decide ((Sum.inr a : Key) = Sum.inl b) = false := decide_eq_false (fun q => nomatch q)

def mixKind (prog : Program) (w : World) : PySem.KeyKind prog w Key where
  is := keyIs
  hash := keyH w
  inj := fun v a b ha hb => by
    rcases keyIs_shape ha with ⟨i, t, rfl, rfl⟩ | ⟨x, t, rfl, rfl⟩
    · rcases keyIs_shape hb with ⟨j, u, rfl, e⟩ | ⟨y, u, rfl, e⟩
      · injection e with e1 _; rw [e1]
      · exact nomatch e
    · rcases keyIs_shape hb with ⟨j, u, rfl, e⟩ | ⟨y, u, rfl, e⟩
      · exact nomatch e
      · injection e with e1 _; rw [e1]
  byValue := fun k v h => by
    rcases keyIs_shape h with ⟨i, t, rfl, rfl⟩ | ⟨x, t, rfl, rfl⟩ <;> rfl
  pyHash := fun hv h => by
    rcases keyIs_shape hv with ⟨i, t, rfl, rfl⟩ | ⟨x, t, rfl, rfl⟩
    · exact wpAny_pyHash_int h
    · exact wpAny_pyHash_str h
  eqBool := fun hu hv h => by
    rcases keyIs_shape hu with ⟨i, t, rfl, rfl⟩ | ⟨x, t, rfl, rfl⟩
    · rcases keyIs_shape hv with ⟨j, u, rfl, rfl⟩ | ⟨y, u, rfl, rfl⟩
      · rw [key_ll] at h; exact wpAny_eqBool_int h
      · rw [key_lr] at h; exact SeqAt.EqAt.int_str i t y u _ _ _ _ h
    · rcases keyIs_shape hv with ⟨j, u, rfl, rfl⟩ | ⟨y, u, rfl, rfl⟩
      · rw [key_rl] at h; exact SeqAt.EqAt.str_int x t j u _ _ _ _ h
      · rw [key_rr] at h; exact wpAny_eqBool_str h
  «strs» := fun k x t v h => by
    rcases keyIs_shape h with ⟨i, u, rfl, e⟩ | ⟨y, u, rfl, e⟩
    · exact nomatch e
    · injection e with e1 _
      subst e1
      cases v <;> rfl

end L2

namespace L2
open PySem PySem.Spec PyProof.Rows

/-- a value, without the heap -/
inductive V where
  | non | bl (b : Bool) | int (i : Int) | str (x : Str) | byt (b : Array UInt8) | flt (b : UInt64) | ref (a : Addr) | ty (n : String)
  deriving DecidableEq

def RelV : V → Value → Prop
  | .non, u => u = Value.none
  | .bl b, u => u = Value.bool b
  | .int i, u => ∃ t, u = Value.int i t
  | .str x, u => ∃ t, u = Value.str x t
  | .byt b, u => ∃ t, u = Value.bytes b t
  | .flt b, u => ∃ t, u = Value.float b t
  | .ref a, u => u = Value.ref a
  | .ty n, u => u = Value.type n

abbrev Vals : List V → List Value → Prop := Paired RelV
theorem Vals.length {xs : List V} {us : List Value} (r : Vals xs us) : xs.length = us.length := Paired.length r
theorem Vals.get : ∀ {xs : List V} {us : List Value} {i : Nat} {x : V}, Vals xs us → xs[i]? = some x → ∃ u, us[i]? = some u ∧ RelV x u
  | _, _, _, _, .nil, e => by simp at e
  | _, _, 0, _, .cons r _, e => by simp at e; subst e; exact ⟨_, rfl, r⟩
  | _, _, i + 1, x, .cons _ t, e => by
    obtain ⟨u, h1, h2⟩ := Vals.get (i := i) (x := x) t (by simpa using e)
    exact ⟨u, by simpa using h1, h2⟩
theorem Vals.append : ∀ {xs ys : List V} {us ws : List Value}, Vals xs us → Vals ys ws → Vals (xs ++ ys) (us ++ ws)
  | _, _, _, _, .nil, s => s
  | _, _, _, _, .cons r t, s => .cons r (Vals.append t s)
theorem Vals.take : ∀ {xs : List V} {us : List Value} (n : Nat), Vals xs us → Vals (xs.take n) (us.take n)
  | _, _, 0, _ => .nil
  | _, _, _ + 1, .nil => .nil
  | _, _, n + 1, .cons r t => .cons r (Vals.take n t)
theorem Vals.drop : ∀ {xs : List V} {us : List Value} (n : Nat), Vals xs us → Vals (xs.drop n) (us.drop n)
  | _, _, 0, r => r
  | _, _, _ + 1, .nil => .nil
  | _, _, n + 1, .cons _ t => Vals.drop n t
def RelO : Option V → Option Value → Prop
  | some v, some u => RelV v u
  | none, none => True
  | _, _ => False
def KV {κ : Type} : List (κ × V) → List (κ × Value) → Prop := Paired fun (p : κ × V) (q : κ × Value) => p.1 = q.1 ∧ RelV p.2 q.2

/-- a key of a dict (00_mix): an int or a text -/
def kV : Key → V
  | .inl i => .int i
  | .inr x => .str x

/-- what stands at a tracked address -/
inductive HO where
  /-- a list -/
  | lst (xs : List V)
  /-- a tuple (never changes) -/
  | tup (xs : List V)
  /-- a dict whose keys are ints and texts; one whose keys are tuples of ints and texts (the empty one is both) -/
  | dK (kvs : List (Key × V)) | dT (kvs : List (List Key × V))
  /-- a set of ints: its members, its size -/
  | set (S : Int → Bool) (n : Nat)
  /-- an instance of the class at C, its dict at dx, its attributes -/
  | ins (C dx : Addr) (fs : List (Str × V))
  /-- the dict of the instance at x -/
  | own (x : Addr)
  /-- the dict of an exception -/
  | xd (fs : List (Str × V))
  /-- a bound method, f of x -/
  | met (f x : Addr)
  /-- a range object lo, lo + 1, .. below hi -/
  | rng (lo hi : Int)
  /-- a thing that is known to the object (the script; a dict while a loop walks it): read, never written while it is so -/
  | frz (o : Obj) (u : HO)
  /-- a code object's table -/
  | tbl (ps : Array Value)
  /-- any other thing, by what is true of its one object (a def of one's own: SetO a S n := HO.ext fun h => ..) -/
  | ext (φ : Heap → Prop)

abbrev Hp := Addr → Option HO
def upd (H : Hp) (a : Addr) (o : HO) : Hp := fun b => if b = a then some o else H b
theorem upd_same {H : Hp} {a : Addr} {o : HO} : upd H a o a = some o := by unfold upd; rw [if_pos rfl]
theorem upd_ne {H : Hp} {a b : Addr} {o : HO} (h : b ≠ a) : upd H a o b = H b := by unfold upd; rw [if_neg h]
theorem ne_of_none {H : Hp} {a b : Addr} {o : HO} (h : H a = some o) (h' : H b = none) : a ≠ b := by
  intro e; subst e; rw [h] at h'; cases h'

section
variable (P : Program) (w : World)
def ObjOk (H : Hp) (h : Heap) (a : Addr) : HO → Prop
  | .lst xs => xs.length ≤ sizeLine ∧ ∃ (its : List Value) (n : Nat), Vals xs its ∧ h.get? a = some { cls := .type "list", data := .seq its.toArray n }
  | .tup xs => xs.length ≤ sizeLine ∧ ∃ its : List Value, Vals xs its ∧ IsTup h a its.toArray
  | .dK kvs => kvs.length ≤ sizeLine ∧ (a == sysModules) = false ∧ ∃ vs, KV kvs vs ∧ h.DictOf (mixKind P w) a vs
  | .dT kvs => kvs.length ≤ sizeLine ∧ (a == sysModules) = false ∧ ∃ xs : List (List Key × Addr × Value),
      Paired (fun (p : List Key × V) (q : List Key × Addr × Value) => p.1 = q.1 ∧ H q.2.1 = some (.tup (p.1.map kV)) ∧ RelV p.2 q.2.2) kvs xs ∧
      ∃ o es ep, h.get? a = some o ∧ o.ExactDict ∧ o.data = .dict es ep ∧ es.toList = xs.map (entryOfKey (tupleKind (mixKind P w))) ∧ (xs.map (·.1)).Nodup
  | .set S n => h.SetOf (intKind P w) a S n
  | .ins C dx fs => H dx = some (.own a) ∧ fs.length ≤ 1000 ∧ dx ≠ a ∧ h.get? a = some (PySem.W.instObj C dx) ∧
      ∃ mA, h.Ns1 dx mA ∧ (∀ f, RelO (fs.lookup f) (mA f)) ∧ PySem.Within mA (fs.map (·.1))
  | .own _ => ∃ o, h.get? a = some o
  | .xd fs => ∃ mA, h.Ns1 a mA ∧ ∀ f, RelO (fs.lookup f) (mA f)
  | .rng lo hi => ∃ t u v, h.get? a = some { cls := .type "range", data := .fields #[.int lo t, .int hi u, .int 1 v] }
  | .frz o u => h.get? a = some o ∧ ObjOk H h a u
  | .tbl ps => h.get? a = some { cls := .none, data := .fields ps }
  | .met f x => h.get? a = some (PySem.W.methodObj (.ref f) (.ref x))
  | .ext φ => φ h ∧ (∃ o, h.get? a = some o) ∧ ∀ h1 h2 : Heap, φ h1 → (∀ o, h1.get? a = some o → h2.get? a = some o) → φ h2
/-- the abstract heap is held -/
def HOk (H : Hp) (h : Heap) : Prop := ∀ a o, H a = some o → ObjOk P w H h a o
end

section
variable {P : Program} {w : World} {H H' : Hp} {h h' : Heap} {a : Addr} {o : HO}
theorem ObjOk.lt (x : ObjOk P w H h a o) : a < h.objs.size := by
  cases o with
  | lst xs => obtain ⟨_, _, _, _, e⟩ := x; exact Heap.lt_size e
  | tup xs => obtain ⟨_, _, _, p⟩ := x; exact p.lt
  | dK kvs => obtain ⟨_, _, _, _, o, _, _, e, _⟩ := x; exact Heap.lt_size e
  | dT kvs => obtain ⟨_, _, _, _, o, _, _, e, _⟩ := x; exact Heap.lt_size e
  | set S n => obtain ⟨o, _, _, _, e, _⟩ := x; exact Heap.lt_size e
  | ins C dx fs => obtain ⟨_, _, _, e, _⟩ := x; exact Heap.lt_size e
  | own y => obtain ⟨_, e⟩ := x; exact Heap.lt_size e
  | xd fs => obtain ⟨_, ⟨_, _, _, e, _⟩, _⟩ := x; exact Heap.lt_size e
  | rng lo hi => obtain ⟨_, _, _, e⟩ := x; exact Heap.lt_size e
  | frz ob u => obtain ⟨e, _⟩ := x; exact Heap.lt_size e
  | tbl ps => exact Heap.lt_size (show h.get? a = some _ from x)
  | met f y => exact Heap.lt_size (show h.get? a = some _ from x)
  | ext φ => obtain ⟨_, ⟨_, e⟩, _⟩ := x; exact Heap.lt_size e
theorem Paired.mapP {α β : Type} {F G : α → β → Prop} : ∀ {l₁ : List α} {l₂ : List β}, Paired F l₁ l₂ → (∀ a b, F a b → G a b) → Paired G l₁ l₂
  | _, _, .nil, _ => .nil
  | _, _, .cons r t, f => .cons (f _ _ r) (Paired.mapP t f)
/-- what an object's description leans on: its own object, its own dict, the tuples -/
theorem ObjOk.stay (x : ObjOk P w H h a o) (k : ∀ b u, (b = a ∨ H b = some (.own a)) → h.get? b = some u → h'.get? b = some u)
    (ho : ∀ b, H b = some (.own a) → H' b = some (.own a)) (ht : ∀ b xs, H b = some (.tup xs) → H' b = some (.tup xs)) : ObjOk P w H' h' a o := by
  induction o with
  | lst xs => obtain ⟨z, its, n, r, e⟩ := x; exact ⟨z, its, n, r, k _ _ (.inl rfl) e⟩
  | tup xs => obtain ⟨z, its, r, ob, e, c⟩ := x; exact ⟨z, its, r, ob, k _ _ (.inl rfl) e, c⟩
  | dK kvs => obtain ⟨z, y, vs, r, ob, es, ep, e, c⟩ := x; exact ⟨z, y, vs, r, ob, es, ep, k _ _ (.inl rfl) e, c⟩
  | dT kvs =>
    obtain ⟨z, y, xs, r, ob, es, ep, e, c⟩ := x
    exact ⟨z, y, xs, Paired.mapP r fun p q z => ⟨z.1, ht _ _ z.2.1, z.2.2⟩, ob, es, ep, k _ _ (.inl rfl) e, c⟩
  | set S n => obtain ⟨ob, es, ep, t, e, c⟩ := x; exact ⟨ob, es, ep, t, k _ _ (.inl rfl) e, c⟩
  | ins C dx fs =>
    obtain ⟨d, z, ne, e, mA, ⟨od, es, ep, e2, c⟩, r⟩ := x
    exact ⟨ho _ d, z, ne, k _ _ (.inl rfl) e, mA, ⟨od, es, ep, k _ _ (.inr d) e2, c⟩, r⟩
  | own y => obtain ⟨ob, e⟩ := x; exact ⟨ob, k _ _ (.inl rfl) e⟩
  | xd fs => obtain ⟨mA, ⟨od, es, ep, e, c⟩, r⟩ := x; exact ⟨mA, ⟨od, es, ep, k _ _ (.inl rfl) e, c⟩, r⟩
  | rng lo hi => obtain ⟨t, u, v, e⟩ := x; exact ⟨t, u, v, k _ _ (.inl rfl) e⟩
  | frz ob u ih => obtain ⟨e, q⟩ := x; exact ⟨k _ _ (.inl rfl) e, ih q⟩
  | tbl ps =>
    have e : h.get? a = some { cls := .none, data := .fields ps } := x
    show h'.get? a = some { cls := .none, data := .fields ps }
    exact k a _ (.inl rfl) e
  | met f y =>
    have e : h.get? a = some (PySem.W.methodObj (.ref f) (.ref y)) := x
    show h'.get? a = some (PySem.W.methodObj (.ref f) (.ref y))
    exact k a _ (.inl rfl) e
  | ext φ => obtain ⟨p, ⟨o, e⟩, st⟩ := x; exact ⟨st _ _ p fun o q => k _ _ (.inl rfl) q, ⟨o, k _ _ (.inl rfl) e⟩, st⟩
theorem HOk.lt (x : HOk P w H h) (e : H a = some o) : a < h.objs.size := (x a o e).lt
theorem HOk.fresh (x : HOk P w H h) (e : h.objs.size ≤ a) : H a = none := by
  cases q : H a with
  | none => rfl
  | some u => exact absurd (Nat.lt_of_lt_of_le (x.lt q) e) (Nat.lt_irrefl _)
/-- every object of the heap is kept -/
theorem HOk.kept (x : HOk P w H h) (k : ∀ b u, h.get? b = some u → h'.get? b = some u) : HOk P w H h' := fun a o e =>
  (x a o e).stay (fun b u _ q => k b u q) (fun _ q => q) fun _ _ q => q
/-- a new object is laid and tracked -/
theorem HOk.laid (x : HOk P w H h) (k : ∀ b u, h.get? b = some u → h'.get? b = some u) (hp : h.objs.size ≤ a) (new : ObjOk P w (upd H a o) h' a o) : HOk P w (upd H a o) h' := fun b u e => by
  have hn := x.fresh hp
  by_cases hb : b = a
  · subst hb; rw [upd_same] at e; cases e; exact new
  · rw [upd_ne hb] at e
    exact (x b u e).stay (fun c v _ q => k c v q) (fun c q => by rw [upd_ne (ne_of_none q hn)]; exact q) fun c xs q => by rw [upd_ne (ne_of_none q hn)]; exact q
end

/-- what may be read as u: it is u, or a known u -/
def Rd (H : Hp) (a : Addr) (u : HO) : Prop := H a = some u ∨ ∃ o, H a = some (.frz o u)
theorem Rd.ok {P : Program} {w : World} {H : Hp} {h : Heap} {a : Addr} {u : HO} (r : Rd H a u) (x : HOk P w H h) : ObjOk P w H h a u := by
  rcases r with r | ⟨o, r⟩
  · exact x a u r
  · obtain ⟨_, q⟩ := x a _ r
    exact q
/-- what may be written -/
def Mut : Option HO → Prop
  | some (.lst _) => True
  | some (.dK _) => True
  | some (.dT _) => True
  | some (.set _ _) => True
  | some (.ins _ _ _) => True
  | some (.ext _) => True
  | _ => False
section
variable {P : Program} {w : World} {H : Hp} {h h' : Heap} {x e : Addr} {o' : HO}
/-- the object at e is changed: x itself, or the dict of the instance x -/
theorem HOk.write (ok : HOk P w H h) (mu : Mut (H x)) (he : e = x ∨ H e = some (.own x)) (k : ∀ b u, b ≠ e → h.get? b = some u → h'.get? b = some u) (heo : ∃ u, h'.get? e = some u)
    (new : ObjOk P w (upd H x o') h' x o') : HOk P w (upd H x o') h' := fun b u q => by
  have nown : ∀ c y, H c = some (.own y) → c ≠ x := fun c y r z => by subst z; rw [r] at mu; exact mu
  have ntup : ∀ c xs, H c = some (.tup xs) → c ≠ x := fun c xs r z => by subst z; rw [r] at mu; exact mu
  by_cases hb : b = x
  · subst hb; rw [upd_same] at q; cases q; exact new
  · rw [upd_ne hb] at q
    by_cases hbe : b = e
    · have q' : H b = some (.own x) := by
        rcases he with z | z
        · exact absurd (hbe.trans z) hb
        · rw [hbe]; exact z
      rw [q] at q'; cases q'
      obtain ⟨v, hv⟩ := heo
      exact ⟨v, by rw [hbe]; exact hv⟩
    · refine (ok b u q).stay (fun c v hc r => k c v ?_ r) (fun c r => by rw [upd_ne (nown c b r)]; exact r) fun c xs r => by rw [upd_ne (ntup c xs r)]; exact r
      rcases hc with rfl | hc
      · exact hbe
      · rintro rfl
        rcases he with z | z
        · exact nown c b hc z
        · rw [hc] at z; cases z; exact hb rfl
end

/-! ### kept unless tracked; of the frames at fs (the callers') the slots may change (an exception that passes writes there); of the records at ex (iterators) nothing is said -/
structure Un (fs ex : List Addr) (H H' : Hp) (h h' : Heap) : Prop where
  keep : ∀ b o, h.get? b = some o → H b = none → b ∉ fs → b ∉ ex → h'.get? b = some o
  slot : ∀ b o, h.get? b = some o → H b = none → b ∈ fs → b ∉ ex → ∃ sl, h'.get? b = some { o with slots := sl }
  free : ∀ b o, h.get? b = some o → H b = none → b ∉ ex → H' b = none
  there : ∀ b o, h.get? b = some o → b ∉ ex → ∃ o', h'.get? b = some o'
  tups : ∀ b xs, H b = some (.tup xs) → H' b = some (.tup xs)
  frzs : ∀ b o u, H b = some (.frz o u) → H' b = some (.frz o u)
  tbls : ∀ b ps, H b = some (.tbl ps) → ∃ more, H' b = some (.tbl (ps ++ more))
section
variable {fs fs' ex ex' : List Addr} {H H1 H2 : Hp} {h h1 h2 h' : Heap} {a x e : Addr} {o : HO}
theorem Un.any (u : Un fs ex H H1 h h1) {b : Addr} {ob : Obj} (q : h.get? b = some ob) (n : H b = none) (hx : b ∉ ex) : ∃ sl, h1.get? b = some { ob with slots := sl } := by
  by_cases hb : b ∈ fs
  · exact u.slot b ob q n hb hx
  · exact ⟨ob.slots, u.keep b ob q n hb hx⟩
theorem Un.kept (k : ∀ b u, h.get? b = some u → h'.get? b = some u) : Un fs ex H H h h' :=
  ⟨fun b ob q _ _ _ => k b ob q, fun b ob q _ _ _ => ⟨ob.slots, k b ob q⟩, fun _ _ _ n _ => n, fun b ob q _ => ⟨ob, k b ob q⟩, fun _ _ q => q, fun _ _ _ q => q, fun _ ps q => ⟨#[], by rw [q]; simp⟩⟩
theorem Un.refl : Un fs ex H H h h := Un.kept fun _ _ q => q
theorem Un.laid (k : ∀ b u, h.get? b = some u → h'.get? b = some u) (hp : h.objs.size ≤ a) (hn : H a = none) : Un fs ex H (upd H a o) h h' where
  keep := fun b u q _ _ _ => k b u q
  slot := fun b u q _ _ _ => ⟨u.slots, k b u q⟩
  free := fun b u q n _ => by rw [upd_ne (Nat.ne_of_lt (Nat.lt_of_lt_of_le (Heap.lt_size q) hp))]; exact n
  there := fun b u q _ => ⟨u, k b u q⟩
  tups := fun b xs q => by rw [upd_ne (ne_of_none q hn)]; exact q
  frzs := fun b u xs q => by rw [upd_ne (ne_of_none q hn)]; exact q
  tbls := fun b ps q => ⟨#[], by rw [upd_ne (ne_of_none q hn), q]; simp⟩
theorem Un.write (mu : Mut (H x)) (he : e = x ∨ H e = some (.own x)) (k : ∀ b u, b ≠ e → h.get? b = some u → h'.get? b = some u) (heo : ∃ u, h'.get? e = some u) : Un fs ex H (upd H x o) h h' := by
  have hx : ∀ b, H b = none → b ≠ x := fun b n z => by subst z; rw [n] at mu; exact mu
  have hb : ∀ b, H b = none → b ≠ e := fun b n z => by
    subst z
    rcases he with r | r
    · exact hx b n r
    · rw [n] at r; cases r
  have hm : ∀ b u, H b = some u → ¬ Mut (some u) → b ≠ x := fun b u q nm z => by subst z; rw [q] at mu; exact nm mu
  refine ⟨fun b u q n _ _ => k b u (hb b n) q, fun b u q n _ _ => ⟨u.slots, k b u (hb b n) q⟩, fun b u q n _ => by rw [upd_ne (hx b n)]; exact n, fun b u q _ => ?_,
    fun b xs q => by rw [upd_ne (hm b _ q fun z => z)]; exact q, fun b u xs q => by rw [upd_ne (hm b _ q fun z => z)]; exact q, fun b ps q => ⟨#[], by rw [upd_ne (hm b _ q fun z => z), q]; simp⟩⟩
  by_cases hbe : b = e
  · subst hbe; exact heo
  · exact ⟨u, k b u hbe q⟩
end

/-! ### the heap without what is tracked -/
def trk (h : Heap) (H : Hp) : List Addr := (List.range h.objs.size).filter fun a => (H a).isSome
def hidT (h : Heap) (H : Hp) : Heap := PySem.W.hideAll h (trk h H)
theorem hidT_size (h : Heap) (H : Hp) : (hidT h H).objs.size = h.objs.size := PySem.W.hideAll_size _ _
theorem hidT_get {h : Heap} {H : Hp} {b : Addr} {o : Obj} (e : h.get? b = some o) (n : H b = none) : (hidT h H).get? b = some o :=
  PySem.W.hideAll_get _ e fun hm => by
    have q : (H b).isSome = true := (List.mem_filter.mp hm).2
    rw [n] at q; simp at q
theorem of_hidT {h : Heap} {H : Hp} {b : Addr} {o : Obj} (e : (hidT h H).get? b = some o) : h.get? b = some o ∧ H b = none := by
  have e' : h.get? b = some o := PySem.W.of_hideAll (trk h H) e
  refine ⟨e', ?_⟩
  cases q : H b with
  | none => rfl
  | some x =>
    have hm : b ∈ trk h H := List.mem_filter.mpr ⟨List.mem_range.mpr (Heap.lt_size e'), by simp [q]⟩
    have z : (hidT h H).get? b = none := PySem.W.hideAll_none (trk h H) hm
    rw [z] at e; cases e

/-! ### OpenK's ledger, filled with every new object but one -/
end L2

namespace L2
open PySem PySem.Spec PyProof.Rows

/-- the module's facts, over the base: the heap at the law's entry without what is tracked there -/
structure Mod (K : PySem.W.Frag) (mg : Str → Option Value) (base : Heap) : Prop where
  kin : K.In base
  glob : base.Ns mainGlobals mg
  blt : ∃ mb, base.Ns builtinsNs mb ∧ ∀ x : Str, x ≠ "__name__" → mb x = bootBuiltins x
  nolimit : base.NoLimit

/-- the context: a def's body (or a comprehension's block) running. base: fixed through the whole law; s₀, H₀: the entry; outer: the frames whose slots others may change (a def's callers); stack: all frames that run;
   ex: iterators that were made ahead of the entry and are walked here (a comprehension's); fn: the names whose cells were made at the entry (a def: all; a comprehension's block: its own); calm: not within an except suite; pn: pins that every state bears; xe: what is wanted of an exception that leaves the code -/
structure Cx where
  prog : Program
  w : World
  K : PySem.W.Frag
  mg : Str → Option Value
  base : Heap
  A : Around
  N : List Str
  s_0 : Shared
  H_0 : Hp
  env : Env
  outer : List Env
  stack : List Env
  ex : List Addr
  fn : Str → Bool
  calm : Bool
  pn : List (Addr × Obj)
  xe : Value → Shared → Prop
/-- the callers' frames -/
def frs (l : List Env) : List Addr := l.filterMap (·.frame)
abbrev Cx.fs (X : Cx) : List Addr := frs X.outer

def Vis (sc : Scope) (x : Str) : Prop := sc.names.lookup x = some .local ∨ sc.names.lookup x = some .cell ∨ sc.names.lookup x = some .free
def Loc (sc : Scope) (x : Str) : Prop := sc.names.lookup x = some .local ∨ sc.names.lookup x = some .cell
def Look (env : Env) (h : Heap) (m : Str → Option Value) (x : Str) (u : Value) : Prop :=
  (env.kindOf x = some .local ∧ m x = some u) ∨ ((env.kindOf x = some .cell ∨ env.kindOf x = some .free) ∧ ∃ c, env.cells.lookup x = some c ∧ h.IsCell c (some u))

structure Cx.Ok (X : Cx) : Prop where
  mod : Mod X.K X.mg X.base
  kind : X.env.scope.kind = .function
  glob : X.env.globals = mainGlobals
  blt : X.env.builtins = builtinsNs
  above : X.s_0.heap.objs.size ≤ X.env.locals
  inj : ∀ x y c, X.env.cells.lookup x = some c → X.env.cells.lookup y = some c → x = y
  has : ∀ x, (X.env.kindOf x = some .cell ∨ X.env.kindOf x = some .free) → ∃ c, X.env.cells.lookup x = some c
  cab : ∀ x c, X.fn x = true → X.env.cells.lookup x = some c → X.s_0.heap.objs.size ≤ c
  hd : X.calm = true → X.A.handled = none
  frames : X.A.frames = some X.stack
  stk : X.stack = X.outer ∨ (X.stack = X.env :: X.outer ∧ X.env.frame = some X.env.locals)
  exf : ∀ b ∈ X.ex, b ≠ X.env.locals ∧ ∀ x c, X.env.cells.lookup x = some c → c ≠ b
  bs : ∀ b o, X.base.get? b = some o → X.s_0.heap.get? b = some o ∧ X.H_0 b = none
  bsz : X.base.objs.size ≤ X.s_0.heap.objs.size
  noex : ∀ b o, X.base.get? b = some o → b ∉ X.ex
  exfs : ∀ b ∈ X.ex, b ∉ X.fs
  funs : X.s_0.heap.FunFrames X.base X.outer
  frf : ∀ b ∈ X.fs, X.H_0 b = none

structure Inv (X : Cx) (pins : List (Addr × Obj)) (σ : List (Option V)) (H : Hp) (s : Shared) : Prop where
  ok : X.Ok
  os : s.os = X.s_0.os
  bare : AllBare s.gens
  base : Un X.fs X.ex X.H_0 H X.s_0.heap s.heap
  loc : ∃ m, s.heap.Ns X.env.locals m ∧ ∀ (i : Nat) (x : Str) (v : V), X.N[i]? = some x → σ[i]? = some (some v) → Vis X.env.scope x → ∃ u, RelV v u ∧ Look X.env s.heap m x u
  cell : ∀ x c, X.env.cells.lookup x = some c → ∃ v, s.heap.IsCell c v
  free : H X.env.locals = none
  freeC : ∀ x c, X.env.cells.lookup x = some c → H c = none
  pin : ∀ p ∈ X.pn ++ pins, s.heap.get? p.1 = some p.2 ∧ H p.1 = none ∧ p.1 ≠ X.env.locals ∧ p.1 ∉ X.fs ∧ ∀ v, p.2.data ≠ .cell v
  hok : HOk X.prog X.w H s.heap
  len : σ.length = X.N.length

section
variable {X : Cx} {pins : List (Addr × Obj)} {σ : List (Option V)} {H H' : Hp} {s : Shared} {h' : Heap}

theorem Cx.Ok.nofr (ok : X.Ok) {b : Addr} {o : Obj} (e : X.base.get? b = some o) : b ∉ X.fs := fun hb => by
  have := (ok.funs.mem hb).1
  rw [e] at this; cases this
theorem Inv.bs (I : Inv X pins σ H s) : ∀ b o, X.base.get? b = some o → s.heap.get? b = some o ∧ H b = none := fun b o e =>
  ⟨I.base.keep b o (I.ok.bs b o e).1 (I.ok.bs b o e).2 (I.ok.nofr e) (I.ok.noex b o e), I.base.free b o (I.ok.bs b o e).1 (I.ok.bs b o e).2 (I.ok.noex b o e)⟩
theorem Inv.bk (I : Inv X pins σ H s) : ∀ b o, X.base.get? b = some o → s.heap.get? b = some o := fun b o e => (I.bs b o e).1
theorem Inv.mod (I : Inv X pins σ H s) : Mod X.K X.mg X.base := I.ok.mod
theorem Inv.kIn (I : Inv X pins σ H s) : X.K.In s.heap := I.ok.mod.kin.keeps I.bk
theorem Inv.lt (I : Inv X pins σ H s) : X.env.locals < s.heap.objs.size := let ⟨_, hn, _⟩ := I.loc; hn.lt
theorem Inv.sz (I : Inv X pins σ H s) : X.s_0.heap.objs.size ≤ s.heap.objs.size := Nat.le_trans I.ok.above (Nat.le_of_lt I.lt)
theorem Inv.nofs (I : Inv X pins σ H s) {a : Addr} (h : s.heap.objs.size ≤ a) : a ∉ X.fs := fun hb => by
  obtain ⟨_, o, ho, _⟩ := I.ok.funs.mem hb
  exact absurd (Nat.lt_of_lt_of_le (Heap.lt_size ho) (Nat.le_trans I.sz h)) (Nat.lt_irrefl _)
theorem Inv.cne (I : Inv X pins σ H s) : ∀ x c, X.env.cells.lookup x = some c → c ≠ X.env.locals := fun x c e z => by
  obtain ⟨v, o, ho, hd⟩ := I.cell x c e
  obtain ⟨m, ⟨o', es, ep, ho', hd', _⟩, _⟩ := I.loc
  rw [z, ho'] at ho; cases ho; rw [hd'] at hd; cases hd
theorem Inv.funs (I : Inv X pins σ H s) : s.heap.FunFrames X.base X.outer := by
  have all : ∀ (l : List Env), (∀ b ∈ frs l, b ∈ X.fs) → X.s_0.heap.FunFrames X.base l → s.heap.FunFrames X.base l := by
    intro l
    induction l with
    | nil => intro _ _; trivial
    | cons env r ih =>
      intro hs hl
      obtain ⟨hk, ⟨L, o, hf, hn, ho, hd⟩, hr⟩ := hl
      have hL : L ∈ X.fs := hs L (by unfold frs; rw [List.filterMap_cons, hf]; exact List.mem_cons_self)
      obtain ⟨sl, e⟩ := I.base.slot L o ho (I.ok.frf L hL) hL fun z => I.ok.exfs L z hL
      exact ⟨hk, ⟨L, _, hf, hn, e, hd⟩, ih (fun b hb => hs b (by unfold frs; rw [List.filterMap_cons, hf]; exact List.mem_cons_of_mem _ hb)) hr⟩
  exact all X.outer (fun _ hb => hb) I.ok.funs

/-- the frames that run, for a call -/
theorem Inv.stack (I : Inv X pins σ H s) : s.heap.FunFrames X.base X.stack := by
  rcases I.ok.stk with e | ⟨e, hf⟩
  · rw [e]; exact I.funs
  · rw [e]
    obtain ⟨m, hn, _⟩ := I.loc
    refine .cons (by rw [I.ok.kind]; decide) hf hn ?_ I.funs
    exact Heap.get?_none_of_le (Nat.le_trans I.ok.bsz I.ok.above)
theorem Inv.stkSub (I : Inv X pins σ H s) : ∀ b ∈ frs X.stack, b ∈ X.env.locals :: X.fs := fun b hb => by
  rcases I.ok.stk with e | ⟨e, hf⟩
  · rw [e] at hb; exact List.mem_cons_of_mem _ hb
  · rw [e] at hb
    unfold frs at hb
    rw [List.filterMap_cons, hf] at hb
    exact hb
theorem Inv.stkFree (I : Inv X pins σ H s) : ∀ b ∈ frs X.stack, H b = none := fun b hb => by
  rcases List.mem_cons.mp (I.stkSub b hb) with e | hb
  · rw [e]; exact I.free
  · obtain ⟨_, o, ho, _⟩ := I.ok.funs.mem hb
    exact I.base.free b o ho (I.ok.frf b hb) fun z => I.ok.exfs b z hb

/-- THE STEP: the untracked objects but the frame and the records at ch are kept (the callers' frames up to slots), the frame's map is kept, the new abstract heap is held -/
theorem Inv.step {g' : Array GenState} {t' : Nat} {d' : Drawn} {ch : List Addr} (I : Inv X pins σ H s)
    (hch : ∀ b ∈ ch, (b ∈ X.ex ∨ X.s_0.heap.objs.size ≤ b) ∧ b ≠ X.env.locals ∧ (∀ x c, X.env.cells.lookup x = some c → c ≠ b) ∧ ∀ p ∈ X.pn ++ pins, p.1 ≠ b)
    (keep : ∀ b o, b ≠ X.env.locals → b ∉ X.fs → b ∉ ch → s.heap.get? b = some o → H b = none → h'.get? b = some o)
    (slot : ∀ b o, b ≠ X.env.locals → b ∈ X.fs → b ∉ ch → s.heap.get? b = some o → H b = none → ∃ sl, h'.get? b = some { o with slots := sl }) (free : ∀ b o, b ∉ ch → s.heap.get? b = some o → H b = none → H' b = none)
    (there : ∀ b o, b ∉ ch → s.heap.get? b = some o → ∃ o', h'.get? b = some o')
    (tups : ∀ b xs, H b = some (.tup xs) → H' b = some (.tup xs)) (frzs : ∀ b o u, H b = some (.frz o u) → H' b = some (.frz o u)) (tbls : ∀ b ps, H b = some (.tbl ps) → ∃ more, H' b = some (.tbl (ps ++ more)))
    (ns : ∀ m, s.heap.Ns X.env.locals m → h'.Ns X.env.locals m) (hok : HOk X.prog X.w H' h') (hg : AllBare g') :
    Inv X pins σ H' { s with heap := h', gens := g', drawn := d', toks := t' } := by
  have neL : ∀ b o, X.s_0.heap.get? b = some o → b ≠ X.env.locals := fun b o e => Nat.ne_of_lt (Nat.lt_of_lt_of_le (Heap.lt_size e) I.ok.above)
  have neC : ∀ b o, X.s_0.heap.get? b = some o → b ∉ X.ex → b ∉ ch := fun b o e hx hb => by
    rcases (hch b hb).1 with z | z
    · exact hx z
    · exact absurd (Nat.lt_of_lt_of_le (Heap.lt_size e) z) (Nat.lt_irrefl _)
  have cellK : ∀ x c, X.env.cells.lookup x = some c → ∀ v, s.heap.IsCell c v → h'.IsCell c v := fun x c e v ⟨o, ho, hd⟩ => by
    have nch : c ∉ ch := fun z => (hch c z).2.2.1 x c e rfl
    by_cases hc : c ∈ X.fs
    · obtain ⟨sl, q⟩ := slot c o (I.cne x c e) hc nch ho (I.freeC x c e)
      exact ⟨_, q, hd⟩
    · exact ⟨o, keep c o (I.cne x c e) hc nch ho (I.freeC x c e), hd⟩
  refine ⟨I.ok, I.os, hg, ⟨fun b o e n hb hx => ?_, fun b o e n hb hx => ?_, fun b o e n hx => ?_, fun b o e hx => ?_, fun b xs e => tups b xs (I.base.tups b xs e), fun b o xs e => frzs b o xs (I.base.frzs b o xs e), fun b ps e => ?_⟩, ?_, fun x c e => ?_, ?_, fun x c e => ?_, fun p hp => ?_, hok, I.len⟩
  · exact keep b o (neL b o e) hb (neC b o e hx) (I.base.keep b o e n hb hx) (I.base.free b o e n hx)
  · obtain ⟨sl, e1⟩ := I.base.slot b o e n hb hx
    obtain ⟨sl', e2⟩ := slot b _ (neL b o e) hb (neC b o e hx) e1 (I.base.free b o e n hx)
    exact ⟨sl', e2⟩
  · obtain ⟨o', e1⟩ := I.base.there b o e hx
    exact free b o' (neC b o e hx) e1 (I.base.free b o e n hx)
  · obtain ⟨o', e1⟩ := I.base.there b o e hx
    exact there b o' (neC b o e hx) e1
  · obtain ⟨m1, e1⟩ := I.base.tbls b ps e
    obtain ⟨m2, e2⟩ := tbls b _ e1
    exact ⟨m1 ++ m2, by rw [e2, Array.append_assoc]⟩
  · obtain ⟨m, hn, hl⟩ := I.loc
    refine ⟨m, ns m hn, fun i x v e1 e2 e3 => ?_⟩
    obtain ⟨u, r, l⟩ := hl i x v e1 e2 e3
    refine ⟨u, r, ?_⟩
    rcases l with l | ⟨k, c, e, z⟩
    · exact .inl l
    · exact .inr ⟨k, c, e, cellK x c e _ z⟩
  · obtain ⟨v, z⟩ := I.cell x c e
    exact ⟨v, cellK x c e v z⟩
  · obtain ⟨m, ⟨o, _, _, ho, _⟩, _⟩ := I.loc
    exact free _ o (fun z => (hch _ z).2.1 rfl) ho I.free
  · obtain ⟨v, o, ho, hd⟩ := I.cell x c e
    exact free c o (fun z => (hch c z).2.2.1 x c e rfl) ho (I.freeC x c e)
  · obtain ⟨e, n, ne, nf, d⟩ := I.pin p hp
    have nch : p.1 ∉ ch := fun z => (hch p.1 z).2.2.2 p hp rfl
    exact ⟨keep p.1 p.2 ne nf nch e n, free p.1 p.2 nch e n, ne, nf, d⟩
/-- .. where the frame's own object is kept too -/
theorem Inv.un {t' : Nat} (I : Inv X pins σ H s) (u : Un X.fs [] H H' s.heap h') (hok : HOk X.prog X.w H' h') : Inv X pins σ H' { s with heap := h', toks := t' } := by
  obtain ⟨m, ⟨o, es, ep, ho, r⟩, _⟩ := id I.loc
  obtain ⟨sl, hL⟩ := u.any ho I.free (by simp)
  exact I.step (g' := s.gens) (d' := s.drawn) (ch := []) (fun _ z => nomatch z) (fun b o _ hb _ e n => u.keep b o e n hb (by simp)) (fun b o _ hb _ e n => u.slot b o e n hb (by simp)) (fun b o _ e n => u.free b o e n (by simp)) (fun b o _ e => u.there b o e (by simp)) u.tups u.frzs u.tbls (fun m' hm => by
    obtain ⟨o', es', ep', ho', r'⟩ := hm
    rw [ho] at ho'; cases ho'
    exact ⟨_, es', ep', hL, r'⟩) hok I.bare
/-- behind a call (or a comprehension's block): the slots of this frame may have changed too, the records at ch may have turned -/
theorem Inv.call {g' : Array GenState} {t' : Nat} {d' : Drawn} {ch : List Addr} (I : Inv X pins σ H s) (u : Un (frs X.stack) ch H H' s.heap h') (hok : HOk X.prog X.w H' h') (hg : AllBare g')
    (hch : ∀ b ∈ ch, (b ∈ X.ex ∨ X.s_0.heap.objs.size ≤ b) ∧ b ≠ X.env.locals ∧ (∀ x c, X.env.cells.lookup x = some c → c ≠ b) ∧ ∀ p ∈ X.pn ++ pins, p.1 ≠ b) :
    Inv X pins σ H' { s with heap := h', gens := g', drawn := d', toks := t' } := by
  obtain ⟨m, ⟨o, es, ep, ho, r⟩, _⟩ := id I.loc
  obtain ⟨sl, hL⟩ := u.any ho I.free fun z => (hch _ z).2.1 rfl
  exact I.step (ch := ch) hch (fun b o hL hb hc e n => u.keep b o e n (fun z => (List.mem_cons.mp (I.stkSub b z)).elim hL hb) hc) (fun b o _ _ hc e n => u.any e n hc) (fun b o hc e n => u.free b o e n hc) (fun b o hc e => u.there b o e hc) u.tups u.frzs u.tbls (fun m' hm => by
    obtain ⟨o', es', ep', ho', r'⟩ := hm
    rw [ho] at ho'; cases ho'
    exact ⟨_, es', ep', hL, r'⟩) hok hg
/-- an untracked record of ours (an iterator) has turned -/
theorem Inv.turned {t' : Nat} {it : Addr} (I : Inv X pins σ H s) (k : ∀ b o, b ≠ it → s.heap.get? b = some o → h'.get? b = some o) (hn : H it = none) (hL : it ≠ X.env.locals)
    (h1 : it ∈ X.ex ∨ X.s_0.heap.objs.size ≤ it) (h2 : ∀ x c, X.env.cells.lookup x = some c → c ≠ it) (h3 : ∀ p ∈ X.pn ++ pins, p.1 ≠ it) : Inv X pins σ H { s with heap := h', toks := t' } := by
  have nit : ∀ b u, H b = some u → b ≠ it := fun b u e z => by rw [z, hn] at e; cases e
  refine I.step (g' := s.gens) (d' := s.drawn) (ch := [it]) (fun b hb => ?_) (fun b o _ _ hc e _ => k b o (fun z => hc (by simp [z])) e) (fun b o _ _ hc e _ => ⟨o.slots, k b o (fun z => hc (by simp [z])) e⟩) (fun _ _ _ _ n => n)
    (fun b o hc e => ⟨o, k b o (fun z => hc (by simp [z])) e⟩) (fun _ _ e => e) (fun _ _ _ e => e) (fun b ps e => ⟨#[], by rw [e]; simp⟩) (fun m hm => ?_) (fun b u e => ?_) I.bare
  · have e : b = it := by simpa using hb
    subst e
    exact ⟨h1, hL, h2, h3⟩
  · obtain ⟨o, es, ep, ho, r⟩ := hm
    exact ⟨o, es, ep, k _ o (Ne.symm hL) ho, r⟩
  · refine (I.hok b u e).stay (fun c v hc q => k c v ?_ q) (fun _ q => q) fun _ _ q => q
    rcases hc with z | z
    · rw [z]; exact nit b u e
    · exact nit c _ z
theorem Inv.tok (I : Inv X pins σ H s) (t : Nat) : Inv X pins σ H { s with toks := t } := I.un (h' := s.heap) (t' := t) Un.refl I.hok
/-- all objects kept -/
theorem Inv.kept {t' : Nat} (I : Inv X pins σ H s) (k : ∀ b u, s.heap.get? b = some u → h'.get? b = some u) : Inv X pins σ H { s with heap := h', toks := t' } := I.un (Un.kept k) (I.hok.kept k)
/-- a new object laid and tracked -/
theorem Inv.laid {a : Addr} {o : HO} {t' : Nat} (I : Inv X pins σ H s) (k : ∀ b u, s.heap.get? b = some u → h'.get? b = some u) (hp : s.heap.objs.size ≤ a) (new : ObjOk X.prog X.w (upd H a o) h' a o) :
    Inv X pins σ (upd H a o) { s with heap := h', toks := t' } := I.un (Un.laid k hp (I.hok.fresh hp)) (I.hok.laid k hp new)
/-- an object written -/
theorem Inv.write {x e : Addr} {o : HO} {t' : Nat} (I : Inv X pins σ H s) (mu : Mut (H x)) (he : e = x ∨ H e = some (.own x)) (k : ∀ b u, b ≠ e → s.heap.get? b = some u → h'.get? b = some u) (heo : ∃ u, h'.get? e = some u)
    (new : ObjOk X.prog X.w (upd H x o) h' x o) : Inv X pins σ (upd H x o) { s with heap := h', toks := t' } := I.un (Un.write mu he k heo) (I.hok.write mu he k heo new)
/-- forgetting slots, pins -/
theorem Inv.weak {σ' : List (Option V)} (I : Inv X pins σ H s) (hl : σ'.length = σ.length) (w : ∀ (i : Nat) v, σ'[i]? = some (some v) → σ[i]? = some (some v)) : Inv X pins σ' H s :=
  ⟨I.ok, I.os, I.bare, I.base, let ⟨m, hn, hl'⟩ := I.loc; ⟨m, hn, fun i x v e1 e2 e3 => hl' i x v e1 (w i v e2) e3⟩, I.cell, I.free, I.freeC, I.pin, I.hok, hl.trans I.len⟩
theorem Inv.pins_of {pins' : List (Addr × Obj)} (I : Inv X pins σ H s) (h : ∀ p ∈ pins', s.heap.get? p.1 = some p.2 ∧ H p.1 = none ∧ p.1 ≠ X.env.locals ∧ p.1 ∉ X.fs ∧ ∀ v, p.2.data ≠ .cell v) : Inv X pins' σ H s :=
  ⟨I.ok, I.os, I.bare, I.base, I.loc, I.cell, I.free, I.freeC, fun p hp => (List.mem_append.mp hp).elim (fun z => I.pin p (List.mem_append_left _ z)) (h p), I.hok, I.len⟩

theorem nodup_ix {N : List Str} (hN : N.Nodup) {i j : Nat} {x : Str} (a : N[i]? = some x) (b : N[j]? = some x) : i = j := by
  obtain ⟨h1, e1⟩ := List.getElem?_eq_some_iff.mp a
  obtain ⟨h2, e2⟩ := List.getElem?_eq_some_iff.mp b
  exact (List.getElem_inj hN).mp (e1.trans e2.symm)

/-- a name is stored; what changed -/
theorem store_ok2 {M : Model} {A : Around} {E : Value → Shared → Prop} {i : Nat} {x : Str} {v : V} {u : Value} {Q : Unit → Shared → Prop} (I : Inv X pins σ H s) (hN : X.N.Nodup) (hi : X.N[i]? = some x) (hx : Loc X.env.scope x) (r : RelV v u)
    (h : ∀ s', Inv X pins (σ.set i (some v)) H s' → (∃ a, Heap.SameBut a s.heap s'.heap ∧ (a = X.env.locals ∨ X.env.cells.lookup x = some a)) → Q () s') (hf : X.fn x = true ∨ X.env.scope.names.lookup x = some .local := by first | exact .inl rfl | exact .inr rfl | assumption) : wpAny M A (storeName X.env x u) Q E s := by
  obtain ⟨m, hn, hl⟩ := id I.loc
  have hcls : (X.env.scope.kind == .class || (X.env.scope.kind == .module && X.env.locals != X.env.globals)) = false := by rw [I.ok.kind]; rfl
  have hiσ : i < σ.length := by rw [I.len]; exact (List.getElem?_eq_some_iff.mp hi).1
  have cne := I.cne
  have tracked : ∀ {a : Addr} {h' : Heap}, (∃ o, s.heap.get? a = some o ∧ H a = none) → Heap.SameBut a s.heap h' → HOk X.prog X.w H h' := fun {a h'} ha hs b ob e => by
    obtain ⟨_, _, hfree⟩ := ha
    refine (I.hok b ob e).stay (fun c w' hc q => (hs.2 c ?_).trans q) (fun _ q => q) fun _ _ q => q
    rintro rfl
    rcases hc with rfl | hc
    · rw [hfree] at e; cases e
    · rw [hfree] at hc; cases hc
  rcases hx with hk | hk
  · refine wpAny_storeName_local hk hn (fun h' hn' hs => ?_) hcls
    obtain ⟨oL, _, _, hoL, _⟩ := id hn
    refine h _ ⟨I.ok, I.os, I.bare, ⟨fun b o e n hb hx => ?_, fun b o e n hb hx => ?_, I.base.free, fun b o e hx => ?_, I.base.tups, I.base.frzs, I.base.tbls⟩, ⟨_, hn', fun j y v' e1 e2 e3 => ?_⟩, fun y c e => ?_, I.free, I.freeC, fun p hp => ?_, tracked ⟨oL, hoL, I.free⟩ hs, by simpa using I.len⟩ ⟨_, hs, .inl rfl⟩
    · exact (hs.2 b (Nat.ne_of_lt (Nat.lt_of_lt_of_le (Heap.lt_size e) I.ok.above))).trans (I.base.keep b o e n hb hx)
    · obtain ⟨sl, e1⟩ := I.base.slot b o e n hb hx
      exact ⟨sl, (hs.2 b (Nat.ne_of_lt (Nat.lt_of_lt_of_le (Heap.lt_size e) I.ok.above))).trans e1⟩
    · obtain ⟨o', e1⟩ := I.base.there b o e hx
      exact ⟨o', (hs.2 b (Nat.ne_of_lt (Nat.lt_of_lt_of_le (Heap.lt_size e) I.ok.above))).trans e1⟩
    · by_cases hj : j = i
      · subst hj
        rw [hi] at e1; cases e1
        rw [List.getElem?_set_self hiσ] at e2
        cases e2
        exact ⟨u, r, .inl ⟨hk, by simp⟩⟩
      · rw [List.getElem?_set_ne (Ne.symm hj)] at e2
        obtain ⟨u', r', q⟩ := hl j y v' e1 e2 e3
        refine ⟨u', r', ?_⟩
        rcases q with ⟨k, e⟩ | ⟨k, c, e, z⟩
        · refine .inl ⟨k, ?_⟩
          have : y ≠ x := fun e => hj (nodup_ix hN e1 (e ▸ hi))
          simp [this, e]
        · exact .inr ⟨k, c, e, z.sameBut hs (cne y c e)⟩
    · obtain ⟨w', z⟩ := I.cell y c e
      exact ⟨w', z.sameBut hs (cne y c e)⟩
    · obtain ⟨e, n, ne, nf, d⟩ := I.pin p hp
      exact ⟨(hs.2 p.1 ne).trans e, n, ne, nf, d⟩
  · have hfn : X.fn x = true := by
      rcases hf with z | z
      · exact z
      · rw [z] at hk; cases hk
    obtain ⟨c, hc⟩ := I.ok.has x (.inl hk)
    obtain ⟨w', z⟩ := I.cell x c hc
    refine wpAny_storeName_cell I.ok.kind hk hc z (fun h' hc' hs => ?_)
    obtain ⟨oc, hoc, hocd⟩ := id z
    refine h { s with heap := h' } ⟨I.ok, I.os, I.bare, ⟨fun b o e n hb hx => ?_, fun b o e n hb hx => ?_, I.base.free, fun b o e hx => ?_, I.base.tups, I.base.frzs, I.base.tbls⟩, ⟨m, hn.sameBut hs (Ne.symm (cne x c hc)), fun j y v' e1 e2 e3 => ?_⟩, fun y c' e => ?_, I.free, I.freeC, fun p hp => ?_, tracked ⟨oc, hoc, I.freeC x c hc⟩ hs, by simpa using I.len⟩ ⟨c, hs, .inr hc⟩
    · exact (hs.2 b (Nat.ne_of_lt (Nat.lt_of_lt_of_le (Heap.lt_size e) (I.ok.cab x c hfn hc)))).trans (I.base.keep b o e n hb hx)
    · obtain ⟨sl, e1⟩ := I.base.slot b o e n hb hx
      exact ⟨sl, (hs.2 b (Nat.ne_of_lt (Nat.lt_of_lt_of_le (Heap.lt_size e) (I.ok.cab x c hfn hc)))).trans e1⟩
    · obtain ⟨o', e1⟩ := I.base.there b o e hx
      exact ⟨o', (hs.2 b (Nat.ne_of_lt (Nat.lt_of_lt_of_le (Heap.lt_size e) (I.ok.cab x c hfn hc)))).trans e1⟩
    · by_cases hj : j = i
      · subst hj
        rw [hi] at e1; cases e1
        rw [List.getElem?_set_self hiσ] at e2
        cases e2
        exact ⟨u, r, .inr ⟨.inl hk, c, hc, hc'⟩⟩
      · rw [List.getElem?_set_ne (Ne.symm hj)] at e2
        obtain ⟨u', r', q⟩ := hl j y v' e1 e2 e3
        refine ⟨u', r', ?_⟩
        rcases q with q | ⟨k, c', e, z'⟩
        · exact .inl q
        · refine .inr ⟨k, c', e, z'.sameBut hs ?_⟩
          rintro rfl
          exact hj (nodup_ix hN e1 (I.ok.inj _ _ _ e hc ▸ hi))
    · by_cases hcc : c' = c
      · subst hcc; exact ⟨_, hc'⟩
      · obtain ⟨w2, z2⟩ := I.cell y c' e
        exact ⟨w2, z2.sameBut hs hcc⟩
    · obtain ⟨e, n, ne, nf, d⟩ := I.pin p hp
      refine ⟨(hs.2 p.1 ?_).trans e, n, ne, nf, d⟩
      intro q
      rw [q, hoc] at e
      have q' : oc = p.2 := Option.some.inj e
      exact d w' (by rw [← q']; exact hocd)
theorem store_ok {M : Model} {A : Around} {E : Value → Shared → Prop} {i : Nat} {x : Str} {v : V} {u : Value} {Q : Unit → Shared → Prop} (I : Inv X pins σ H s) (hN : X.N.Nodup) (hi : X.N[i]? = some x) (hx : Loc X.env.scope x) (r : RelV v u)
    (h : ∀ s', Inv X pins (σ.set i (some v)) H s' → Q () s') (hf : X.fn x = true ∨ X.env.scope.names.lookup x = some .local := by first | exact .inl rfl | exact .inr rfl | assumption) : wpAny M A (storeName X.env x u) Q E s :=
  store_ok2 I hN hi hx r (fun s' I' _ => h s' I') hf
/-- behind a call or a block, the state as it is -/
theorem Inv.call' {s' : Shared} {ch : List Addr} (I : Inv X pins σ H s) (ho : s'.os = s.os) (u : Un (frs X.stack) ch H H' s.heap s'.heap) (hok : HOk X.prog X.w H' s'.heap) (hg : AllBare s'.gens)
    (hch : ∀ b ∈ ch, (b ∈ X.ex ∨ X.s_0.heap.objs.size ≤ b) ∧ b ≠ X.env.locals ∧ (∀ x c, X.env.cells.lookup x = some c → c ≠ b) ∧ ∀ p ∈ X.pn ++ pins, p.1 ≠ b) : Inv X pins σ H' s' := by
  obtain ⟨h', g', d', t', o'⟩ := s'
  have e : o' = s.os := ho
  subst e
  exact I.call (g' := g') (t' := t') (d' := d') u hok hg hch
end

/-! ### the judgements -/
/-- an exception: its class, its own dict's address (where it has one), the abstract heap behind it -/
abbrev XK := Value → Option Addr → Hp → Prop
abbrev St := List (Option V)
abbrev VK := V → Hp → Prop
/-- an expression's reading; a test's; an argument list's -/
abbrev TE := St → Hp → VK → Prop
abbrev TT := St → Hp → (Bool → Hp → Prop) → Prop
abbrev TA := St → Hp → (List V → Hp → Prop) → Prop
/-- what is wanted behind a statement -/
structure Ends where
  nx : St → Hp → Prop
  rt : VK
  bk : St → Hp → Prop := fun _ _ => False
  ct : St → Hp → Prop := fun _ _ => False
abbrev TS := Ends → St → Hp → Prop

def EP (X : Cx) (pins : List (Addr × Obj)) (σ : St) (Q : VK) (u : Value) (s' : Shared) : Prop := ∃ v H', Inv X pins σ H' s' ∧ RelV v u ∧ Q v H'
def TP (X : Cx) (pins : List (Addr × Obj)) (σ : St) (Q : Bool → Hp → Prop) (b : Bool) (s' : Shared) : Prop := ∃ H', Inv X pins σ H' s' ∧ Q b H'
def AP (X : Cx) (pins : List (Addr × Obj)) (σ : St) (Q : List V → Hp → Prop) (us : List Value) (s' : Shared) : Prop := ∃ vs H', Inv X pins σ H' s' ∧ Vals vs us ∧ Q vs H'
def SP (X : Cx) (pins : List (Addr × Obj)) (D : Ends) (f : Flow) (s' : Shared) : Prop :=
  match f with
  | .next => ∃ σ' H', Inv X pins σ' H' s' ∧ D.nx σ' H'
  | .brk => ∃ σ' H', Inv X pins σ' H' s' ∧ D.bk σ' H'
  | .cont => ∃ σ' H', Inv X pins σ' H' s' ∧ D.ct σ' H'
  | .ret u => ∃ v σ' H', Inv X pins σ' H' s' ∧ RelV v u ∧ D.rt v H'

def PE (X : Cx) (e : Expr) (t : TE) : Prop :=
  ∀ (pins : List (Addr × Obj)) (s : Shared) (σ : St) (H : Hp) (Q : VK), Inv X pins σ H s → t σ H Q → wpAny (model X.prog X.w) X.A (eval e X.env) (EP X pins σ Q) X.xe s
def PT (X : Cx) (e : Expr) (t : TT) : Prop :=
  ∀ (pins : List (Addr × Obj)) (s : Shared) (σ : St) (H : Hp) (Q : Bool → Hp → Prop), Inv X pins σ H s → t σ H Q → wpAny (model X.prog X.w) X.A (isTrue e X.env (eval e X.env)) (TP X pins σ Q) X.xe s
/-- a test whatever its 'whole' is (and, or) -/
def PW (X : Cx) (e : Expr) (t : TT) : Prop :=
  ∀ (whole : Sem Value) (pins : List (Addr × Obj)) (s : Shared) (σ : St) (H : Hp) (Q : Bool → Hp → Prop), Inv X pins σ H s → t σ H Q → wpAny (model X.prog X.w) X.A (isTrue e X.env whole) (TP X pins σ Q) X.xe s
theorem PW.pt {X : Cx} {e : Expr} {t : TT} (h : PW X e t) : PT X e t := h _
/-- an argument list (no star), from the left -/
def PA (X : Cx) (es : List Expr) (t : TA) : Prop :=
  ∀ (pos : Pos) (pins : List (Addr × Obj)) (s : Shared) (σ : St) (H : Hp) (Q : List V → Hp → Prop), Inv X pins σ H s → t σ H Q → wpAny (model X.prog X.w) X.A (spliced (backTo pos (starEach es X.env))) (AP X pins σ Q) X.xe s
def PS (X : Cx) (st : Stmt) (t : TS) : Prop :=
  ∀ (pins : List (Addr × Obj)) (s : Shared) (σ : St) (H : Hp) (D : Ends), Inv X pins σ H s → t D σ H → wpAny (model X.prog X.w) X.A (exec st X.env) (SP X pins D) X.xe s
def PSs (X : Cx) (st : List Stmt) (t : TS) : Prop :=
  ∀ (pins : List (Addr × Obj)) (s : Shared) (σ : St) (H : Hp) (D : Ends), Inv X pins σ H s → t D σ H → wpAny (model X.prog X.w) X.A (execs st X.env) (SP X pins D) X.xe s
/-- weaken the end -/
theorem thn {α : Type} {t : Sem α} {Q Q' : α → Shared → Prop} {M : Model} {A : Around} {E : Value → Shared → Prop} {s : Shared} (h : wpAny M A t Q E s) (hQ : ∀ a s, Q a s → Q' a s) : wpAny M A t Q' E s := wpAny_mono h hQ fun _ _ x => x
end L2

namespace L2
open PySem PySem.Spec PyProof.Rows
section
variable {X : Cx}

/-! ### names and constants -/
def tVar (i : Nat) : TE := fun σ H Q => ∃ v, σ[i]? = some (some v) ∧ Q v H
def tC (v : V) : TE := fun _ H Q => Q v H
theorem pe_var {i : Nat} {x : Str} {pos : Pos} (hN : X.N[i]? = some x) (hv : Vis X.env.scope x) (hd : (x == ("__debug__" : Str)) = false := by decide) (hcd : (x == ("__classdict__" : Str)) = false := by decide) : PE X (.Name x pos) (tVar i) := by
  intro pins s σ H Q I h
  obtain ⟨v, e, h⟩ := h
  obtain ⟨m, hn, hl⟩ := I.loc
  obtain ⟨u, r, l⟩ := hl i x v hN e hv
  have fin : EP X pins σ Q u s := ⟨v, H, I, r, h⟩
  rcases l with ⟨hk, hm⟩ | ⟨hk, c, hc, hcell⟩
  · exact wpAny_Name (wpAny_loadName_local I.ok.kind hk hn hm fin) hd
  · rcases hk with hk | hk
    · exact wpAny_Name (wpAny_loadName_cell I.ok.kind hk hc hcell fin) hd
    · exact wpAny_Name (wpAny_loadName_free I.ok.kind hk hc hcell fin hcd) hd
theorem pe_int {i j pos} : PE X (.Constant (.int i) j pos) (tC (.int i)) := fun _ _ _ H _ I h => wpAny_Constant_int ⟨.int i, H, I.tok _, ⟨_, rfl⟩, h⟩
theorem pe_str {x j pos} : PE X (.Constant (.str x) j pos) (tC (.str x)) := fun _ _ _ H _ I h => Calls.Constant_str ⟨.str x, H, I.tok _, ⟨_, rfl⟩, h⟩

/-- a global name of the def -/
def Gl (X : Cx) (x : Str) : Prop := X.env.kindOf x = some .globalImplicit
theorem ld_glob {E : Value → Shared → Prop} {pins : List (Addr × Obj)} {s : Shared} {σ : St} {H : Hp} {x : Str} {u : Value} {pos : Pos} {Q : Value → Shared → Prop} (I : Inv X pins σ H s) (hg : Gl X x) (hm : X.mg x = some u) (h : Q u s)
    (hd : (x == ("__debug__" : Str)) = false := by decide) : wpAny (model X.prog X.w) X.A (eval (.Name x pos) X.env) Q E s :=
  Calls.Name_function_global I.ok.kind hg (Calls.loadGlobal_global (by rw [I.ok.glob]; exact I.mod.glob.keeps I.bk) hm h) hd
theorem ld_blt {E : Value → Shared → Prop} {pins : List (Addr × Obj)} {s : Shared} {σ : St} {H : Hp} {x : Str} {u : Value} {pos : Pos} {Q : Value → Shared → Prop} (I : Inv X pins σ H s) (hg : Gl X x) (hm : X.mg x = none) (hv : bootBuiltins x = some u) (h : Q u s)
    (hn : x ≠ "__name__" := by decide) (hd : (x == ("__debug__" : Str)) = false := by decide) : wpAny (model X.prog X.w) X.A (eval (.Name x pos) X.env) Q E s := by
  obtain ⟨mb, h1, h2⟩ := I.mod.blt
  exact Calls.Name_function_global I.ok.kind hg (Calls.loadGlobal_builtin (by rw [I.ok.glob]; exact I.mod.glob.keeps I.bk) hm (by rw [I.ok.blt]; exact h1.keeps I.bk) ((h2 x hn).trans hv) h) hd
/-- a module's constant, a class, a function, as a value -/
theorem pe_glob {x : Str} {v : V} {u : Value} {pos : Pos} (hg : Gl X x) (hm : X.mg x = some u) (r : RelV v u) (hd : (x == ("__debug__" : Str)) = false := by decide) : PE X (.Name x pos) (tC v) :=
  fun _ _ _ H _ I h => ld_glob I hg hm ⟨v, H, I, r, h⟩ hd
/-! ### arithmetic -/
variable {a b : Expr} {ta tb : TE} {pos : Pos}
/-! ### comparisons -/
/-- a comparison as a value, as a test -/
def tB (t : TE) : TT := fun σ H Q => t σ H fun x H1 => ∃ c, x = .bl c ∧ Q c H1
/-- an expression whose value is a bool, as a test -/
theorem pt_val {e : Expr} {t : TE} (h : PE X e t) (he : ∀ whole, isTrue e X.env whole = (do let v ← whole; standAt e.pos; holding [v] (truthy v)) := by intro _; rfl) : PT X e (tB t) := by
  intro pins s σ H Q I hw
  refine isTrue_plain (thn (h pins s σ H _ I hw) fun v s1 ⟨x, H1, I1, r1, q1⟩ => ?_) (he _)
  obtain ⟨d, rfl, q⟩ := q1
  cases r1
  exact wpAny_truthy_bool ⟨H1, I1, q⟩

/-! ### and, or, not -/
variable {tA tB' : TT} {rest : List Expr}
def tAnd (t u : TT) : TT := fun σ H Q => t σ H fun c H1 => if c = true then u σ H1 Q else Q false H1
def tNot (t : TT) : TT := fun σ H Q => t σ H fun c H1 => Q (!c) H1
theorem pw_and1 (ha : PT X a tA) : PW X (.BoolOp .And [a] pos) tA := by
  intro wh pins s σ H Q I h
  refine isTrue_and (thn (ha pins s σ H Q I h) fun c s1 e => ?_)
  cases c with
  | true => exact isTrue_and_nil e
  | false => exact e
theorem pw_and (ha : PT X a tA) (hb : PW X (.BoolOp .And (b :: rest) pos) tB') : PW X (.BoolOp .And (a :: b :: rest) pos) (tAnd tA tB') := by
  intro wh pins s σ H Q I h
  refine isTrue_and (thn (ha pins s σ H _ I h) fun c s1 ⟨H1, I1, q1⟩ => ?_)
  cases c with
  | true => exact hb wh pins s1 σ H1 Q I1 q1
  | false => exact ⟨H1, I1, q1⟩
theorem pt_not (ha : PT X a tA) : PT X (.UnaryOp .Not a pos) (tNot tA) := by
  intro pins s σ H Q I h
  exact isTrue_not (ha pins s σ H (fun c H1 => Q (!c) H1) I h)
/-- .. as values (bools) -/
def tAndV (ta tb : TE) : TE := fun σ H Q => ta σ H fun x H1 => ∃ c, x = .bl c ∧ if c = true then tb σ H1 Q else Q (.bl false) H1
def tOrV (ta tb : TE) : TE := fun σ H Q => ta σ H fun x H1 => ∃ c, x = .bl c ∧ if c = true then Q (.bl true) H1 else tb σ H1 Q
theorem pe_one {op} {t : TE} (h : PE X a t) : PE X (.BoolOp op [a] pos) t := fun pins s σ H Q I hw => BoolOp_one (h pins s σ H Q I hw)
theorem pe_and (ha : PE X a ta) (hb : PE X (.BoolOp .And (b :: rest) pos) tb) : PE X (.BoolOp .And (a :: b :: rest) pos) (tAndV ta tb) := by
  intro pins s σ H Q I h
  refine BoolOp_and (thn (ha pins s σ H _ I h) fun v s1 ⟨x, H1, I1, r1, q1⟩ => ?_)
  obtain ⟨c, rfl, q1⟩ := q1
  cases r1
  refine wpAny_truthy_bool ?_
  cases c with
  | true => exact hb pins s1 σ H1 Q I1 q1
  | false => exact ⟨.bl false, H1, I1, rfl, q1⟩
theorem pe_or (ha : PE X a ta) (hb : PE X (.BoolOp .Or (b :: rest) pos) tb) : PE X (.BoolOp .Or (a :: b :: rest) pos) (tOrV ta tb) := by
  intro pins s σ H Q I h
  refine BoolOp_or (thn (ha pins s σ H _ I h) fun v s1 ⟨x, H1, I1, r1, q1⟩ => ?_)
  obtain ⟨c, rfl, q1⟩ := q1
  cases r1
  refine wpAny_truthy_bool ?_
  cases c with
  | false => exact hb pins s1 σ H1 Q I1 q1
  | true => exact ⟨.bl true, H1, I1, rfl, q1⟩
end
end L2

namespace L2
open PySem PySem.Spec PyProof.Rows

/-! ### a list, a tuple that is read: tracked, frozen, or an object of the module -/
def SqL (K : PySem.W.Frag) (H : Hp) (a : Addr) (xs : List V) : Prop :=
  Rd H a (.lst xs) ∨
    ∃ (o : Obj) (its : Array Value) (n : Nat), K.lookup a = some o ∧ o.cls = .type "list" ∧ o.dict = none ∧ o.data = .seq its n ∧ its.size ≤ sizeLine ∧ Vals xs its.toList
def SqT (K : PySem.W.Frag) (H : Hp) (a : Addr) (xs : List V) : Prop :=
  Rd H a (.tup xs) ∨
    ∃ (o : Obj) (its : Array Value) (n : Nat), K.lookup a = some o ∧ o.cls = .type "tuple" ∧ o.data = .seq its n ∧ its.size ≤ sizeLine ∧ Vals xs its.toList
def absV : Value → Option V
  | .none => some .non
  | .bool b => some (.bl b)
  | .int i _ => some (.int i)
  | .str x _ => some (.str x)
  | .bytes b _ => some (.byt b)
  | .float b _ => some (.flt b)
  | .ref a => some (.ref a)
  | .type n => some (.ty n)
  | _ => none
theorem RelV.abs {x : V} {u : Value} (r : RelV x u) : absV u = some x := by
  cases x with
  | non => cases r; rfl
  | bl _ => cases r; rfl
  | int _ => obtain ⟨t, rfl⟩ := r; rfl
  | str _ => obtain ⟨t, rfl⟩ := r; rfl
  | byt _ => obtain ⟨t, rfl⟩ := r; rfl
  | flt _ => obtain ⟨t, rfl⟩ := r; rfl
  | ref _ => cases r; rfl
  | ty _ => cases r; rfl
theorem RelV.inj {x y : V} {u : Value} (r : RelV x u) (q : RelV y u) : x = y := Option.some.inj (r.abs.symm.trans q.abs)
theorem Vals.inj : ∀ {xs ys : List V} {us : List Value}, Vals xs us → Vals ys us → xs = ys
  | _, _, _, .nil, .nil => rfl
  | _, _, _, .cons r t, .cons r' t' => by rw [r.inj r', Vals.inj t t']
section
variable {X : Cx} {pins : List (Addr × Obj)} {σ : St} {H : Hp} {s : Shared} {a : Addr} {xs ys : List V}
theorem SqL.of {K : PySem.W.Frag} (h : H a = some (.lst xs)) : SqL K H a xs := .inl (.inl h)
theorem SqT.of {K : PySem.W.Frag} (h : H a = some (.tup xs)) : SqT K H a xs := .inl (.inl h)
theorem Inv.list (I : Inv X pins σ H s) (h : SqL X.K H a xs) : ∃ its : List Value, Vals xs its ∧ PlainL s.heap a its.toArray ∧ xs.length ≤ sizeLine := by
  rcases h with h | ⟨o, its, n, hk, hc, hd, hs, hz, r⟩
  · obtain ⟨z, its, n, r, e⟩ := h.ok I.hok
    exact ⟨its, r, ⟨_, n, e, rfl, rfl, rfl⟩, z⟩
  · refine ⟨its.toList, r, ⟨o, n, I.kIn a o hk, hc, hd, by simpa using hs⟩, ?_⟩
    have e := r.length
    simp only [Array.length_toList] at e
    omega
theorem Inv.tuple (I : Inv X pins σ H s) (h : SqT X.K H a xs) : ∃ its : List Value, Vals xs its ∧ IsTup s.heap a its.toArray ∧ xs.length ≤ sizeLine := by
  rcases h with h | ⟨o, its, n, hk, hc, hs, hz, r⟩
  · obtain ⟨z, its, r, p⟩ := h.ok I.hok
    exact ⟨its, r, p, z⟩
  · refine ⟨its.toList, r, ⟨o, I.kIn a o hk, hc, n, by simpa using hs⟩, ?_⟩
    have e := r.length
    simp only [Array.length_toList] at e
    omega
theorem Inv.list_inj (I : Inv X pins σ H s) (h : SqL X.K H a xs) (h' : SqL X.K H a ys) : xs = ys := by
  obtain ⟨its, r, ⟨o, n, e, _, _, d⟩, _⟩ := I.list h
  obtain ⟨its', r', ⟨o', n', e', _, _, d'⟩, _⟩ := I.list h'
  rw [e] at e'; cases e'
  rw [d] at d'
  injection d' with d1 _
  have : its = its' := by simpa using congrArg Array.toList d1
  subst this
  exact r.inj r'
theorem Inv.tuple_inj (I : Inv X pins σ H s) (h : SqT X.K H a xs) (h' : SqT X.K H a ys) : xs = ys := by
  obtain ⟨its, r, ⟨o, e, _, n, d⟩, _⟩ := I.tuple h
  obtain ⟨its', r', ⟨o', e', _, n', d'⟩, _⟩ := I.tuple h'
  rw [e] at e'; cases e'
  rw [d] at d'
  injection d' with d1 _
  have : its = its' := by simpa using congrArg Array.toList d1
  subst this
  exact r.inj r'
end

/-! ### another wish about exceptions -/
abbrev Cx.wish (X : Cx) (E : Value → Shared → Prop) : Cx := { X with xe := E }
/-- no exception leaves -/
abbrev Cx.nox (X : Cx) : Cx := X.wish fun _ _ => False
theorem Cx.Ok.wish {X : Cx} (ok : X.Ok) (E : Value → Shared → Prop) : (X.wish E).Ok :=
  ⟨ok.mod, ok.kind, ok.glob, ok.blt, ok.above, ok.inj, ok.has, ok.cab, ok.hd, ok.frames, ok.stk, ok.exf, ok.bs, ok.bsz, ok.noex, ok.exfs, ok.funs, ok.frf⟩
theorem Cx.Ok.unwish {X : Cx} {E : Value → Shared → Prop} (ok : (X.wish E).Ok) : X.Ok :=
  ⟨ok.mod, ok.kind, ok.glob, ok.blt, ok.above, ok.inj, ok.has, ok.cab, ok.hd, ok.frames, ok.stk, ok.exf, ok.bs, ok.bsz, ok.noex, ok.exfs, ok.funs, ok.frf⟩
section
variable {X : Cx} {pins : List (Addr × Obj)} {σ : St} {H : Hp} {s : Shared} {E : Value → Shared → Prop}
theorem Inv.wish (I : Inv X pins σ H s) (E : Value → Shared → Prop) : Inv (X.wish E) pins σ H s := ⟨I.ok.wish E, I.os, I.bare, I.base, I.loc, I.cell, I.free, I.freeC, I.pin, I.hok, I.len⟩
theorem Inv.unwish (I : Inv (X.wish E) pins σ H s) : Inv X pins σ H s := ⟨I.ok.unwish, I.os, I.bare, I.base, I.loc, I.cell, I.free, I.freeC, I.pin, I.hok, I.len⟩
theorem SP.unwish {D : Ends} {f : Flow} {s' : Shared} (h : SP (X.wish E) pins D f s') : SP X pins D f s' := by
  cases f with
  | next => obtain ⟨σ', H', I, q⟩ := h; exact ⟨σ', H', I.unwish, q⟩
  | brk => obtain ⟨σ', H', I, q⟩ := h; exact ⟨σ', H', I.unwish, q⟩
  | cont => obtain ⟨σ', H', I, q⟩ := h; exact ⟨σ', H', I.unwish, q⟩
  | ret u => obtain ⟨v, σ', H', I, r, q⟩ := h; exact ⟨v, σ', H', I.unwish, r, q⟩
theorem PSs.nox {st : List Stmt} {t : TS} (h : PSs X.nox st t) : PSs X st t := fun pins s σ H D I hw =>
  wpAny_mono (h pins s σ H D (I.wish _) hw) (fun _ _ q => q.unwish) fun _ _ z => False.elim z
end

/-! ### blocks and small statements -/
section
variable {X : Cx} {st : Stmt} {rest : List Stmt} {t u : TS} {e : Expr} {te : TE} {pos : Pos}
def tNext : TS := fun D σ H => D.nx σ H
def tSeq (t u : TS) : TS := fun D σ H => t { D with nx := u D } σ H
theorem pss_nil : PSs X [] tNext := fun _ _ σ H _ I h => wpAny_execs_nil ⟨σ, H, I, h⟩
theorem pss_cons (h1 : PS X st t) (h2 : PSs X rest u) : PSs X (st :: rest) (tSeq t u) := by
  intro pins s σ H D I h
  refine wpAny_execs_cons (thn (h1 pins s σ H { D with nx := u D } I h) fun f s1 q => ?_)
  cases f with
  | next =>
    obtain ⟨σ', H', I', q⟩ := q
    exact h2 pins s1 σ' H' D I' q
  | ret v => exact q
  | brk => exact q
  | cont => exact q
theorem pss_one (h1 : PS X st t) : PSs X [st] t := by
  intro pins s σ H D I h
  refine wpAny_execs_cons (thn (h1 pins s σ H D I h) fun f s1 q => ?_)
  cases f with
  | next => exact wpAny_execs_nil q
  | ret v => exact q
  | brk => exact q
  | cont => exact q
def tRet (te : TE) : TS := fun D σ H => te σ H D.rt
theorem ps_ret (he : PE X e te) : PS X (.Return (some e) pos) (tRet te) := by
  intro pins s σ H D I h
  exact wpAny_Return_some (thn (he pins s σ H _ I h) fun v s1 ⟨x, H1, I1, r1, q1⟩ => ⟨x, σ, H1, I1, r1, q1⟩)
def tIfS (c : TT) (t u : TS) : TS := fun D σ H => c σ H fun b H1 => if b = true then t D σ H1 else u D σ H1
theorem ps_if {c : Expr} {a b : List Stmt} {tc : TT} (hc : PT X c tc) (ha : PSs X a t) (hb : PSs X b u) : PS X (.If c a b pos) (tIfS tc t u) := by
  intro pins s σ H D I h
  refine wpAny_If (thn (hc pins s σ H _ I h) fun d s1 ⟨H1, I1, q1⟩ => ?_)
  cases d with
  | true => exact ha pins s1 σ H1 D I1 q1
  | false => exact hb pins s1 σ H1 D I1 q1
end

/-! ### targets -/
abbrev TG := V → St → Hp → (St → Hp → Prop) → Prop
def PG (X : Cx) (target : Expr) (t : TG) : Prop :=
  ∀ (pins : List (Addr × Obj)) (s : Shared) (σ : St) (H : Hp) (v : V) (u : Value) (Q : St → Hp → Prop), Inv X pins σ H s → RelV v u → t v σ H Q →
    wpAny (model X.prog X.w) X.A (assign target X.env u) (fun _ s' => ∃ σ' H', Inv X pins σ' H' s' ∧ Q σ' H') X.xe s
section
variable {X : Cx} {pos : Pos}
def gName (i : Nat) : TG := fun v σ H Q => Q (σ.set i (some v)) H
theorem pg_name {i : Nat} {x : Str} (hN : X.N.Nodup) (hi : X.N[i]? = some x) (hx : Loc X.env.scope x) (hf : X.fn x = true ∨ X.env.scope.names.lookup x = some .local := by first | exact .inl rfl | exact .inr rfl | assumption) : PG X (.Name x pos) (gName i) := by
  intro pins s σ H v u Q I r h
  exact wpAny_assign_Name (store_ok I hN hi hx r (fun s' I' => ⟨_, H, I', h⟩) hf)
/-- target = value -/
def tAsg (te : TE) (g : TG) : TS := fun D σ H => te σ H fun x H1 => g x σ H1 D.nx
/-- name = value -/
theorem ps_set {i : Nat} {x : Str} {e : Expr} {te : TE} {pos' : Pos} (hN : X.N.Nodup) (hi : X.N[i]? = some x) (hx : Loc X.env.scope x) (he : PE X e te) (hs : swapsWith e (some (.Name x pos')) pos.line X.env = pure false := by rfl) (hf : X.fn x = true ∨ X.env.scope.names.lookup x = some .local := by first | exact .inl rfl | exact .inr rfl | assumption) :
    PS X (.Assign [.Name x pos'] e pos) (tAsg te (gName i)) := by
  intro pins s σ H D I h
  refine wpAny_Assign_Name (thn (he pins s σ H _ I h) fun v s1 ⟨y, H1, I1, r1, q1⟩ => ?_) hs
  exact store_ok I1 hN hi hx r1 (fun s2 I2 => ⟨_, H1, I2, q1⟩) hf
end

/-! ### while -/
section
variable {X : Cx} {pos : Pos}
/-- the invariant W with its measure -/
def tWhile (c : TT) (tb : TS) : TS := fun D σ H => ∃ W : Nat → St → Hp → Prop, (∃ m, W m σ H) ∧ ∀ m σ H, W m σ H →
  c σ H fun b H1 => if b = true then ∃ N : St → Hp → Prop, (∀ σ' H', N σ' H' → ∃ m', m' < m ∧ W m' σ' H') ∧ tb { D with nx := N, ct := N, bk := D.nx } σ H1 else D.nx σ H1
theorem ps_while {c : Expr} {body : List Stmt} {tc : TT} {tb : TS} (hp : PassesOwn (model X.prog X.w) X.A X.env X.xe) (hc : PT X c tc) (hb : PSs X body tb) : PS X (.While c body [] pos) (tWhile tc tb) := by
  intro pins s σ H D I h
  obtain ⟨W, ⟨m0, w0⟩, turn⟩ := h
  refine wpAny_While (codeAny_whileLoop (fun n s' => ∃ σ' H', Inv X pins σ' H' s' ∧ W n σ' H') ?_ m0 ⟨σ, H, I, w0⟩)
  rintro n s1 ⟨σ1, H1, I1, w1⟩
  refine wpAny_passesOwn hp (thn (hc pins s1 σ1 H1 _ I1 (turn n σ1 H1 w1)) fun b s2 ⟨H2, I2, q2⟩ => ?_)
  cases b with
  | true =>
    obtain ⟨N, hN, q2⟩ := q2
    rw [if_pos rfl]
    refine wpAny_passesOwn hp (thn (hb pins s2 σ1 H2 _ I2 q2) fun f s3 q3 => ?_)
    cases f with
    | next =>
      obtain ⟨σ3, H3, I3, n3⟩ := q3
      obtain ⟨m', hm, w3⟩ := hN σ3 H3 n3
      exact ⟨m', hm, σ3, H3, I3, w3⟩
    | cont =>
      obtain ⟨σ3, H3, I3, n3⟩ := q3
      obtain ⟨m', hm, w3⟩ := hN σ3 H3 n3
      exact ⟨m', hm, σ3, H3, I3, w3⟩
    | brk => exact q3
    | ret v => exact q3
  | false =>
    rw [if_neg Bool.false_ne_true]
    exact wpAny_execs_nil ⟨σ1, H2, I2, q2⟩
end

/-! ### what a loop or a comprehension walks -/
/-- at turn i: it yields x (the heap may grow), or it stops -/
structure It where
  go : Nat → Hp → Prop
  yld : Nat → Hp → V → Hp → Prop
  stop : Nat → Hp → Prop
/-- the iterator's own objects may turn: they are not the frame's, not pinned, younger than the entry (or a comprehension's own) -/
def FpOk (X : Cx) (pins : List (Addr × Obj)) (H : Hp) (b : Addr) : Prop :=
  H b = none ∧ b ≠ X.env.locals ∧ b ∉ X.fs ∧ (b ∈ X.ex ∨ X.s_0.heap.objs.size ≤ b) ∧ (∀ x c, X.env.cells.lookup x = some c → c ≠ b) ∧ ∀ p ∈ X.pn ++ pins, p.1 ≠ b
theorem Inv.fpOk {X : Cx} {pins : List (Addr × Obj)} {σ : St} {H H' : Hp} {s : Shared} {b : Addr} (I : Inv X pins σ H s) (hb : s.heap.objs.size ≤ b) (hn : H' b = none) : FpOk X pins H' b := by
  refine ⟨hn, Nat.ne_of_gt (Nat.lt_of_lt_of_le I.lt hb), I.nofs hb, .inr (Nat.le_trans I.sz hb), fun x c e z => ?_, fun p hp z => ?_⟩
  · obtain ⟨v, q⟩ := I.cell x c e
    exact absurd (Nat.lt_of_lt_of_le q.lt (by rw [z]; exact hb)) (Nat.lt_irrefl _)
  · exact absurd (Nat.lt_of_lt_of_le (Heap.lt_size (I.pin p hp).1) (by rw [z]; exact hb)) (Nat.lt_irrefl _)
structure Turn (P : Program) (w : World) (K : PySem.W.Frag) (tg : Expr) (J : It) (fp : List Addr) (it : Addr) (tn : Nat → Heap → Prop) : Prop where
  mem : it ∈ fp
  obj : ∀ i h, tn i h → ∀ b ∈ fp, ∃ o, h.get? b = some o ∧ ∀ v, o.data ≠ .cell v
  keep : ∀ i h h', tn i h → (∀ b ∈ fp, ∀ o, h.get? b = some o → h'.get? b = some o) → tn i h'
  item : ∀ (X : Cx), X.prog = P → X.w = w → X.K = K → X.calm = true → ∀ (i : Nat) (pins : List (Addr × Obj)) (s : Shared) (σ : St) (H : Hp) (E : Value → Shared → Prop), Inv X pins σ H s → (∀ b ∈ fp, FpOk X pins H b) → tn i s.heap → J.go i H →
    wpAny (model P w) X.A (pyNext (.ref it)) (fun r s1 => ∃ u, r = some u ∧
      wpAny (model P w) X.A (letOwnedTupleGo tg (.ref it) u) (fun _ s2 => ∃ x H', Inv X pins σ H' s2 ∧ RelV x u ∧ J.yld i H x H' ∧ tn (i + 1) s2.heap ∧ ∀ b ∈ fp, H' b = none) E s1) E s
  done : ∀ (X : Cx), X.prog = P → X.w = w → X.K = K → X.calm = true → ∀ (i : Nat) (pins : List (Addr × Obj)) (s : Shared) (σ : St) (H : Hp) (E : Value → Shared → Prop), Inv X pins σ H s → (∀ b ∈ fp, FpOk X pins H b) → tn i s.heap → J.stop i H →
    wpAny (model P w) X.A (pyNext (.ref it)) (fun r s1 => r = none ∧ Inv X pins σ H s1) E s
  self : ∀ (A : Around) (i : Nat) (s : Shared) (Q : Value → Shared → Prop) (E : Value → Shared → Prop), tn i s.heap → Q (.ref it) s → wpAny (model P w) A (pyIter (.ref it)) Q E s
abbrev TI := St → Hp → (It → Hp → Prop) → Prop
/-- an iterator has come -/
def PIE (X : Cx) (pins : List (Addr × Obj)) (σ : St) (tg : Expr) (R : It → Hp → Prop) (itv : Value) (s2 : Shared) : Prop :=
  ∃ (it : Addr) (fp : List Addr) (tn : Nat → Heap → Prop) (J : It) (H' : Hp), itv = .ref it ∧ Inv X pins σ H' s2 ∧ Turn X.prog X.w X.K tg J fp it tn ∧ tn 0 s2.heap ∧ (∀ b ∈ fp, FpOk X pins H' b) ∧ R J H'
def PI (X : Cx) (tg iter : Expr) (wi : TI) : Prop :=
  ∀ (pins : List (Addr × Obj)) (s : Shared) (σ : St) (H : Hp) (R : It → Hp → Prop), Inv X pins σ H s → wi σ H R →
    wpAny (model X.prog X.w) X.A (eval iter X.env) (fun v s1 => wpAny (model X.prog X.w) X.A (pyIter v) (PIE X pins σ tg R) X.xe s1) X.xe s

/-- the step ahead of the store is nothing for an iterator that keeps no tuple -/
theorem go_of {M : Model} {A : Around} {E : Value → Shared → Prop} {s : Shared} {tg : Expr} {it : Addr} {u : Value} {o : Obj} {n : String} {vs : Array Value} {Q : Unit → Shared → Prop} (ho : s.heap.get? it = some o) (hc : o.cls = .type n) (hd : o.data = .fields vs)
    (hn : ["enumerate", "zip", "dict_itemiterator", "dict_reverseitemiterator", "odict_iterator", "itertools.zip_longest", "itertools.pairwise"].contains n = false) (hQ : Q () s) : wpAny M A (letOwnedTupleGo tg (.ref it) u) Q E s := by
  unfold letOwnedTupleGo
  cases tg <;> first
    | exact wpAny_pure hQ
    | (cases u <;> first
        | exact wpAny_pure hQ
        | (refine wpAny_bind (wpAny_load ho ?_)
           rw [hc, hd]
           show wpAny M A (if (["enumerate", "zip", "dict_itemiterator", "dict_reverseitemiterator", "odict_iterator", "itertools.zip_longest", "itertools.pairwise"].contains n && vs[0]? == some (rawInt _)) = true then _ else _) Q E s
           rw [if_neg (by intro h; rw [hn, Bool.false_and] at h; cases h)]
           exact wpAny_pure hQ))

/-- the list at a, as it stands at each turn (a loop may append to it) -/
def Itl (K : PySem.W.Frag) (a : Addr) : It :=
  ⟨fun i H => ∃ xs x, SqL K H a xs ∧ xs[i]? = some x, fun i H x H' => H' = H ∧ ∀ xs, SqL K H a xs → xs[i]? = some x, fun i H => ∃ xs, SqL K H a xs ∧ xs.length ≤ i⟩
def Itt (K : PySem.W.Frag) (a : Addr) : It :=
  ⟨fun i H => ∃ xs x, SqT K H a xs ∧ xs[i]? = some x, fun i H x H' => H' = H ∧ ∀ xs, SqT K H a xs → xs[i]? = some x, fun i H => ∃ xs, SqT K H a xs ∧ xs.length ≤ i⟩
theorem turn_list {P : Program} {w : World} {K : PySem.W.Frag} {tg : Expr} (a it : Addr) : Turn P w K tg (Itl K a) [it] it (fun i h => h.IsListIter it a i) where
  mem := by simp
  obj := fun i h st b hb => by
    have e : b = it := by simpa using hb
    subst e
    obtain ⟨o, e, c, d⟩ := st
    exact ⟨o, e, fun v z => by rw [d] at z; cases z⟩
  keep := fun i h h' st k => st.at fun o e => k it (by simp) o e
  item := by
    intro X hP hw hK hc i pins s σ H E I hf st hg
    subst hP hw hK
    obtain ⟨xs, x, hq, hx⟩ := hg
    obtain ⟨its, rv, p, hz⟩ := I.list hq
    obtain ⟨u, hu, ru⟩ := rv.get hx
    obtain ⟨f0, f1, f2, f3, f4, f5⟩ := hf it (by simp)
    refine wpAny_pyNext_list_item st p.isList (x := u) (by simpa using hu) fun h' st' sb => ?_
    have I1 : Inv X pins σ H { s with heap := h' } := I.turned (t' := s.toks) (fun b o hb e => (sb.2 b hb).trans e) f0 f1 f3 f4 f5
    obtain ⟨o, e, c, d⟩ := id st'
    exact ⟨u, rfl, go_of (s := { s with heap := h' }) e c d (by decide) ⟨x, H, I1, ru, ⟨rfl, fun ys hy => by rw [I.list_inj hy hq]; exact hx⟩, st', fun b hb => (hf b hb).1⟩⟩
  done := by
    intro X hP hw hK hc i pins s σ H E I hf st hg
    subst hP hw hK
    obtain ⟨xs, hq, hx⟩ := hg
    obtain ⟨its, rv, p, hz⟩ := I.list hq
    obtain ⟨f0, f1, f2, f3, f4, f5⟩ := hf it (by simp)
    have hl := rv.length
    exact wpAny_pyNext_list_end (I.ok.hd hc) st p.isList (by simp; omega) fun h' eb => ⟨rfl, I.turned (t' := s.toks) (fun b o hb e => eb b o hb e) f0 f1 f3 f4 f5⟩
  self := fun _ _ _ _ _ st h => wpAny_pyIter_listiter st h
theorem turn_tuple {P : Program} {w : World} {K : PySem.W.Frag} {tg : Expr} (a it : Addr) : Turn P w K tg (Itt K a) [it] it (fun i h => h.IsTupleIter it a i) where
  mem := by simp
  obj := fun i h st b hb => by
    have e : b = it := by simpa using hb
    subst e
    obtain ⟨o, e, c, d⟩ := st
    exact ⟨o, e, fun v z => by rw [d] at z; cases z⟩
  keep := fun i h h' st k => st.at fun o e => k it (by simp) o e
  item := by
    intro X hP hw hK hc i pins s σ H E I hf st hg
    subst hP hw hK
    obtain ⟨xs, x, hq, hx⟩ := hg
    obtain ⟨its, rv, p, hz⟩ := I.tuple hq
    obtain ⟨u, hu, ru⟩ := rv.get hx
    obtain ⟨f0, f1, f2, f3, f4, f5⟩ := hf it (by simp)
    refine wpAny_pyNext_tuple_item st (show s.heap.IsTuple a its.toArray from p) (x := u) (by simpa using hu) fun h' st' sb => ?_
    have I1 : Inv X pins σ H { s with heap := h' } := I.turned (t' := s.toks) (fun b o hb e => (sb.2 b hb).trans e) f0 f1 f3 f4 f5
    obtain ⟨o, e, c, d⟩ := id st'
    exact ⟨u, rfl, go_of (s := { s with heap := h' }) e c d (by decide) ⟨x, H, I1, ru, ⟨rfl, fun ys hy => by rw [I.tuple_inj hy hq]; exact hx⟩, st', fun b hb => (hf b hb).1⟩⟩
  done := by
    intro X hP hw hK hc i pins s σ H E I hf st hg
    subst hP hw hK
    obtain ⟨xs, hq, hx⟩ := hg
    obtain ⟨its, rv, p, hz⟩ := I.tuple hq
    obtain ⟨f0, f1, f2, f3, f4, f5⟩ := hf it (by simp)
    have hl := rv.length
    exact wpAny_pyNext_tuple_end (I.ok.hd hc) st (show s.heap.IsTuple a its.toArray from p) (by simp; omega) fun h' eb => ⟨rfl, I.turned (t' := s.toks) (fun b o hb e => eb b o hb e) f0 f1 f3 f4 f5⟩
  self := fun _ _ _ _ _ st h => wpAny_pyIter_tupleiter st h
end L2

namespace L2
open PySem PySem.Spec PyProof.Rows
section
variable {X : Cx} {tg : Expr}
def iList (K : PySem.W.Frag) (tl : TE) : TI := fun σ H R => tl σ H fun x H1 => ∃ a, x = .ref a ∧ (∃ xs, SqL K H1 a xs) ∧ R (Itl K a) H1
def iTup (K : PySem.W.Frag) (tl : TE) : TI := fun σ H R => tl σ H fun x H1 => ∃ a, x = .ref a ∧ (∃ xs, SqT K H1 a xs) ∧ R (Itt K a) H1
theorem pi_list {l : Expr} {tl : TE} (hl : PE X l tl) : PI X tg l (iList X.K tl) := by
  intro pins s σ H R I h
  refine thn (hl pins s σ H _ I h) fun v s1 ⟨x, H1, I1, r1, q1⟩ => ?_
  obtain ⟨a, e, ⟨xs, hq⟩, q⟩ := q1
  subst e
  cases r1
  obtain ⟨its, rv, p, hz⟩ := I1.list hq
  refine wpAny_pyIter_list p.isList ?_
  refine ⟨s1.heap.objs.size, [s1.heap.objs.size], _, _, H1, rfl, I1.kept (t' := s1.toks) fun b o e => Heap.get?_push_of_some _ e, turn_list a _, ⟨_, Heap.get?_push_size _ rfl, rfl, rfl⟩, fun b hb => ?_, q⟩
  have e : b = s1.heap.objs.size := by simpa using hb
  subst e
  exact I1.fpOk (Nat.le_refl _) (I1.hok.fresh (Nat.le_refl _))
theorem pi_tup {l : Expr} {tl : TE} (hl : PE X l tl) : PI X tg l (iTup X.K tl) := by
  intro pins s σ H R I h
  refine thn (hl pins s σ H _ I h) fun v s1 ⟨x, H1, I1, r1, q1⟩ => ?_
  obtain ⟨a, e, ⟨xs, hq⟩, q⟩ := q1
  subst e
  cases r1
  obtain ⟨its, rv, p, hz⟩ := I1.tuple hq
  refine wpAny_pyIter_tuple (show s1.heap.IsTuple a its.toArray from p) ?_
  refine ⟨s1.heap.objs.size, [s1.heap.objs.size], _, _, H1, rfl, I1.kept (t' := s1.toks) fun b o e => Heap.get?_push_of_some _ e, turn_tuple a _, ⟨_, Heap.get?_push_size _ rfl, rfl, rfl⟩, fun b hb => ?_, q⟩
  have e : b = s1.heap.objs.size := by simpa using hb
  subst e
  exact I1.fpOk (Nat.le_refl _) (I1.hok.fresh (Nat.le_refl _))
/-! ### for -/
/-- W: the invariant by the turn and a measure; N: what the body is to reach -/
def tFor (wi : TI) (g : TG) (tb : TS) : TS := fun D σ H => wi σ H fun J H1 => ∃ W : Nat → Nat → St → Hp → Prop, (∃ m, W 0 m σ H1) ∧ ∀ i m σ H, W i m σ H →
  (J.stop i H ∧ D.nx σ H) ∨ (J.go i H ∧ ∃ N : St → Hp → Prop, (∀ σ' H', N σ' H' → ∃ m', m' < m ∧ W (i + 1) m' σ' H') ∧ ∀ x H', J.yld i H x H' → g x σ H' fun σ2 H2 => tb { D with nx := N, ct := N, bk := D.nx } σ2 H2)
/-- the records at fp as they stand -/
def pinsAt (fp : List Addr) (h : Heap) : List (Addr × Obj) := fp.filterMap fun b => (h.get? b).map fun o => (b, o)
theorem mem_pinsAt {fp : List Addr} {h : Heap} {b : Addr} {o : Obj} (hb : b ∈ fp) (e : h.get? b = some o) : (b, o) ∈ pinsAt fp h := List.mem_filterMap.mpr ⟨b, hb, by rw [e]; rfl⟩
theorem of_pinsAt {fp : List Addr} {h : Heap} {p : Addr × Obj} (hp : p ∈ pinsAt fp h) : p.1 ∈ fp ∧ h.get? p.1 = some p.2 := by
  obtain ⟨b, hb, e⟩ := List.mem_filterMap.mp hp
  cases q : h.get? b with
  | none => rw [q] at e; cases e
  | some o =>
    rw [q] at e
    have e' : (b, o) = p := Option.some.inj e
    subst e'
    exact ⟨hb, q⟩
theorem Inv.pinned {pins : List (Addr × Obj)} {σ : St} {H : Hp} {s : Shared} {fp : List Addr} (I : Inv X pins σ H s) (hf : ∀ b ∈ fp, FpOk X pins H b) (ho : ∀ b ∈ fp, ∃ o, s.heap.get? b = some o ∧ ∀ v, o.data ≠ .cell v) : Inv X (pins ++ pinsAt fp s.heap) σ H s :=
  I.pins_of fun p hp => (List.mem_append.mp hp).elim (fun z => I.pin p (List.mem_append_right _ z)) fun z => by
    obtain ⟨hb, e⟩ := of_pinsAt z
    obtain ⟨f0, f1, f2, _⟩ := hf p.1 hb
    obtain ⟨o, e', d⟩ := ho p.1 hb
    rw [e] at e'; cases e'
    exact ⟨e, f0, f1, f2, d⟩
theorem Inv.unpinned {pins pl : List (Addr × Obj)} {σ : St} {H : Hp} {s : Shared} (I : Inv X (pins ++ pl) σ H s) : Inv X pins σ H s := I.pins_of fun p hp => I.pin p (List.mem_append_right _ (List.mem_append_left _ hp))
theorem ps_for {iter : Expr} {body : List Stmt} {wi : TI} {g : TG} {tb : TS} {pos : Pos} (hp : PassesOwn (model X.prog X.w) X.A X.env X.xe) (hc : X.calm = true) (hi : PI X tg iter wi) (hg : PG X tg g) (hb : PSs X body tb)
    (hs : ∀ x, foldedSetIterable iter X.env x = pure x := by intro _; rfl) : PS X (.For tg iter body [] pos) (tFor wi g tb) := by
  intro pins s σ H D I h
  refine wpAny_For (thn (hi pins s σ H _ I h) fun v s1 h1 => thn h1 fun itv s2 h2 => ?_) hs
  obtain ⟨it, fp, tn, J, H2, e, I2, T, st2, f2, W, ⟨m0, w0⟩, turn⟩ := h2
  subst e
  -- what stays true of the iterator's objects through the loop
  have stat : ∀ {H' : Hp}, (∀ b ∈ fp, H' b = none) → ∀ b ∈ fp, FpOk X pins H' b := fun hn b hb => ⟨hn b hb, (f2 b hb).2⟩
  refine codeAny_forLoop_any (fun n s' => ∃ i σ' H', Inv X pins σ' H' s' ∧ tn i s'.heap ∧ (∀ b ∈ fp, H' b = none) ∧ W i n σ' H') ?_ m0 ⟨0, σ, H2, I2, st2, fun b hb => (f2 b hb).1, w0⟩
  rintro n s3 ⟨i, σ3, H3, I3, st3, fr3, w3⟩
  rcases turn i n σ3 H3 w3 with ⟨stop, qn⟩ | ⟨go, N, hN, step⟩
  · refine wpAny_passesOwn hp (thn (T.done X rfl rfl rfl hc i pins s3 σ3 H3 X.xe I3 (stat fr3) st3 stop) fun r s4 ⟨hr, I4⟩ => ?_)
    subst hr
    exact wpAny_execs_nil ⟨σ3, H3, I4, qn⟩
  · refine wpAny_passesOwn hp (thn (T.item X rfl rfl rfl hc i pins s3 σ3 H3 X.xe I3 (stat fr3) st3 go) fun r s4 ⟨u, hr, h4⟩ => ?_)
    subst hr
    refine wpAny_passesOwn hp (thn h4 fun _ s5 ⟨x, H5, I5, r5, y5, st5, fr5⟩ => ?_)
    have I5' := I5.pinned (stat fr5) (T.obj _ _ st5)
    refine wpAny_passesOwn hp (thn (hg _ s5 σ3 H5 x u _ I5' r5 (step x H5 y5)) fun _ s6 ⟨σ6, H6, I6, q6⟩ => ?_)
    refine wpAny_passesOwn hp (thn (hb _ s6 σ6 H6 _ I6 q6) fun f s7 q7 => ?_)
    have again : ∀ {σ7 : St} {H7 : Hp}, Inv X (pins ++ pinsAt fp s5.heap) σ7 H7 s7 → N σ7 H7 → ∃ m, m < n ∧ ∃ i σ' H', Inv X pins σ' H' s7 ∧ tn i s7.heap ∧ (∀ b ∈ fp, H' b = none) ∧ W i m σ' H' := fun {σ7 H7} I7 n7 => by
      obtain ⟨m', hm, w7⟩ := hN σ7 H7 n7
      refine ⟨m', hm, i + 1, σ7, H7, I7.unpinned, T.keep _ _ _ st5 fun b hb o e => (I7.pin (b, o) (List.mem_append_right _ (List.mem_append_right _ (mem_pinsAt hb e)))).1, fun b hb => ?_, w7⟩
      obtain ⟨o, e, d⟩ := T.obj _ _ st5 b hb
      exact (I7.pin (b, o) (List.mem_append_right _ (List.mem_append_right _ (mem_pinsAt hb e)))).2.1
    cases f with
    | next => obtain ⟨σ7, H7, I7, n7⟩ := q7; exact again I7 n7
    | cont => obtain ⟨σ7, H7, I7, n7⟩ := q7; exact again I7 n7
    | brk => obtain ⟨σ7, H7, I7, q7⟩ := q7; exact ⟨σ7, H7, I7.unpinned, q7⟩
    | ret v => obtain ⟨x7, σ7, H7, I7, r7, q7⟩ := q7; exact ⟨x7, σ7, H7, I7.unpinned, r7, q7⟩
end

/-! ### the forms one uses -/
/-- over a list that the body leaves as it is -/
theorem for_list {K : PySem.W.Frag} {a : Addr} {xs : List V} {g : TG} {tb : TS} {D : Ends} {σ : St} {H : Hp} (Pv : Nat → St → Hp → Prop) (h0 : Pv 0 σ H) (hl : ∀ i σ H, i ≤ xs.length → Pv i σ H → SqL K H a xs)
    (hs : ∀ i x σ H, xs[i]? = some x → Pv i σ H → g x σ H fun σ2 H2 => tb { D with nx := Pv (i + 1), ct := Pv (i + 1), bk := D.nx } σ2 H2) (hd : ∀ σ H, Pv xs.length σ H → D.nx σ H) :
    ∃ W : Nat → Nat → St → Hp → Prop, (∃ m, W 0 m σ H) ∧ ∀ i m σ H, W i m σ H →
      ((Itl K a).stop i H ∧ D.nx σ H) ∨ ((Itl K a).go i H ∧ ∃ N : St → Hp → Prop, (∀ σ' H', N σ' H' → ∃ m', m' < m ∧ W (i + 1) m' σ' H') ∧ ∀ x H', (Itl K a).yld i H x H' → g x σ H' fun σ2 H2 => tb { D with nx := N, ct := N, bk := D.nx } σ2 H2) := by
  refine ⟨fun i m σ H => m = xs.length - i ∧ i ≤ xs.length ∧ Pv i σ H, ⟨xs.length, by simp, Nat.zero_le _, h0⟩, ?_⟩
  rintro i m σ H ⟨rfl, hi, p⟩
  have q := hl i σ H hi p
  by_cases hlt : i < xs.length
  · refine .inr ⟨⟨xs, xs[i], q, by simp [hlt]⟩, Pv (i + 1), fun σ' H' p' => ⟨xs.length - (i + 1), by omega, rfl, hlt, p'⟩, fun x H' y => ?_⟩
    obtain ⟨e, y⟩ := y
    subst e
    exact hs i x σ _ (y xs q) p
  · have e : i = xs.length := by omega
    subst e
    exact .inl ⟨⟨xs, q, Nat.le_refl _⟩, hd σ H p⟩
theorem for_tup {K : PySem.W.Frag} {a : Addr} {xs : List V} {g : TG} {tb : TS} {D : Ends} {σ : St} {H : Hp} (Pv : Nat → St → Hp → Prop) (h0 : Pv 0 σ H) (hl : ∀ i σ H, i ≤ xs.length → Pv i σ H → SqT K H a xs)
    (hs : ∀ i x σ H, xs[i]? = some x → Pv i σ H → g x σ H fun σ2 H2 => tb { D with nx := Pv (i + 1), ct := Pv (i + 1), bk := D.nx } σ2 H2) (hd : ∀ σ H, Pv xs.length σ H → D.nx σ H) :
    ∃ W : Nat → Nat → St → Hp → Prop, (∃ m, W 0 m σ H) ∧ ∀ i m σ H, W i m σ H →
      ((Itt K a).stop i H ∧ D.nx σ H) ∨ ((Itt K a).go i H ∧ ∃ N : St → Hp → Prop, (∀ σ' H', N σ' H' → ∃ m', m' < m ∧ W (i + 1) m' σ' H') ∧ ∀ x H', (Itt K a).yld i H x H' → g x σ H' fun σ2 H2 => tb { D with nx := N, ct := N, bk := D.nx } σ2 H2) := by
  refine ⟨fun i m σ H => m = xs.length - i ∧ i ≤ xs.length ∧ Pv i σ H, ⟨xs.length, by simp, Nat.zero_le _, h0⟩, ?_⟩
  rintro i m σ H ⟨rfl, hi, p⟩
  have q := hl i σ H hi p
  by_cases hlt : i < xs.length
  · refine .inr ⟨⟨xs, xs[i], q, by simp [hlt]⟩, Pv (i + 1), fun σ' H' p' => ⟨xs.length - (i + 1), by omega, rfl, hlt, p'⟩, fun x H' y => ?_⟩
    obtain ⟨e, y⟩ := y
    subst e
    exact hs i x σ _ (y xs q) p
  · have e : i = xs.length := by omega
    subst e
    exact .inl ⟨⟨xs, q, Nat.le_refl _⟩, hd σ H p⟩
end L2

namespace L2
open PySem PySem.Spec PyProof.Rows

abbrev R2 := V → V → Hp → VK → Prop
/-- a two-place operation on values: f is binaryOp op, inplaceOp op or compareOp op -/
def OpR (X : Cx) (f : Value → Value → Sem Value) (r : R2) : Prop :=
  ∀ (pins : List (Addr × Obj)) (s : Shared) (σ : St) (H : Hp) (x y : V) (v u : Value) (Q : VK), Inv X pins σ H s → RelV x v → RelV y u → r x y H Q →
    wpAny (model X.prog X.w) X.A (f v u) (EP X pins σ Q) X.xe s
/-- a one-place operation -/
def UnR (X : Cx) (f : Value → Sem Value) (r : V → Hp → VK → Prop) : Prop :=
  ∀ (pins : List (Addr × Obj)) (s : Shared) (σ : St) (H : Hp) (x : V) (v : Value) (Q : VK), Inv X pins σ H s → RelV x v → r x H Q →
    wpAny (model X.prog X.w) X.A (f v) (EP X pins σ Q) X.xe s
/-- a call of a value that is known (a builtin, a type) with values -/
def CallR (X : Cx) (f : Value) (r : List V → Hp → VK → Prop) : Prop :=
  ∀ (pins : List (Addr × Obj)) (s : Shared) (σ : St) (H : Hp) (xs : List V) (us : List Value) (Q : VK), Inv X pins σ H s → Vals xs us → r xs H Q →
    wpAny (model X.prog X.w) X.A (call f us) (EP X pins σ Q) X.xe s
def tOp (r : R2) (ta tb : TE) : TE := fun σ H Q => ta σ H fun x H1 => tb σ H1 fun y H2 => r x y H2 Q
def tUn (r : V → Hp → VK → Prop) (ta : TE) : TE := fun σ H Q => ta σ H fun x H1 => r x H1 Q
/-- ints in, under C, and a value out -/
def rI (C : Int → Int → Prop) (g : Int → Int → V) : R2 := fun x y H Q => ∃ i j, x = .int i ∧ y = .int j ∧ C i j ∧ Q (g i j) H
def rI0 (g : Int → Int → V) : R2 := fun x y H Q => ∃ i j, x = .int i ∧ y = .int j ∧ Q (g i j) H
def rU (g : Int → V) : V → Hp → VK → Prop := fun x H Q => ∃ i, x = .int i ∧ Q (g i) H

section
variable {X : Cx} {a b c : Expr} {ta tb tc : TE} {pos : Pos}

theorem binT (ha : PE X a ta) (hb : PE X b tb) {pins : List (Addr × Obj)} {s : Shared} {σ : St} {H : Hp} {R : V → V → Hp → Prop} (I : Inv X pins σ H s)
    (h : ta σ H fun x H1 => tb σ H1 fun y H2 => R x y H2) {Q : Value → Shared → Prop} {f : Value → Value → Sem Value}
    (hf : ∀ v u s2 x y H2, Inv X pins σ H2 s2 → RelV x v → RelV y u → R x y H2 → wpAny (model X.prog X.w) X.A (f v u) Q X.xe s2) :
    wpAny (model X.prog X.w) X.A (eval a X.env) (fun v s₁ => wpAny (model X.prog X.w) X.A (eval b X.env) (fun u s₂ => wpAny (model X.prog X.w) X.A (f v u) Q X.xe s₂) X.xe s₁) X.xe s := by
  refine thn (ha pins s σ H _ I h) fun v s1 ⟨x, H1, I1, r1, q1⟩ => ?_
  refine thn (hb pins s1 σ H1 _ I1 q1) fun u s2 ⟨y, H2, I2, r2, q2⟩ => ?_
  exact hf v u s2 x y H2 I2 r1 r2 q2

theorem pe_op {op : Operator} {r : R2} (ho : OpR X (binaryOp op) r) (ha : PE X a ta) (hb : PE X b tb) : PE X (.BinOp a op b pos) (tOp r ta tb) := by
  intro pins s σ H Q I h
  exact wpAny_BinOp (binT ha hb I h fun v u s2 x y H2 I2 rx ry q => ho pins s2 σ H2 x y v u Q I2 rx ry q)
theorem pe_un {op : UnaryOp} {r : V → Hp → VK → Prop} (ho : UnR X (unaryOp op) r) (ha : PE X a ta) : PE X (.UnaryOp op a pos) (tUn r ta) := by
  intro pins s σ H Q I h
  exact UnaryOp_ (thn (ha pins s σ H _ I h) fun v s1 ⟨x, H1, I1, r1, q1⟩ => ho pins s1 σ H1 x v Q I1 r1 q1)
/-! ### ints -/
theorem opI {f : Value → Value → Sem Value} {C : Int → Int → Prop} {g : Int → Int → Int}
    (rule : ∀ (i j : Int) (t u : Tok) (s : Shared) (Q : Value → Shared → Prop) (E : Value → Shared → Prop), C i j → Q (.int (g i j) s.toks) { s with toks := s.toks + 1 } → wpAny (model X.prog X.w) X.A (f (.int i t) (.int j u)) Q E s) :
    OpR X f (rI C fun i j => .int (g i j)) := by
  intro pins s σ H x y v u Q I rx ry h
  obtain ⟨i, j, rfl, rfl, hc, q⟩ := h
  obtain ⟨t, rfl⟩ := rx
  obtain ⟨t', rfl⟩ := ry
  exact rule i j t t' s _ _ hc ⟨.int (g i j), H, I.tok _, ⟨_, rfl⟩, q⟩
theorem opI0 {f : Value → Value → Sem Value} {g : Int → Int → Int}
    (rule : ∀ (i j : Int) (t u : Tok) (s : Shared) (Q : Value → Shared → Prop) (E : Value → Shared → Prop), Q (.int (g i j) s.toks) { s with toks := s.toks + 1 } → wpAny (model X.prog X.w) X.A (f (.int i t) (.int j u)) Q E s) :
    OpR X f (rI0 fun i j => .int (g i j)) := by
  intro pins s σ H x y v u Q I rx ry h
  obtain ⟨i, j, rfl, rfl, q⟩ := h
  obtain ⟨t, rfl⟩ := rx
  obtain ⟨t', rfl⟩ := ry
  exact rule i j t t' s _ _ ⟨.int (g i j), H, I.tok _, ⟨_, rfl⟩, q⟩
theorem opB0 {f : Value → Value → Sem Value} {g : Int → Int → Bool}
    (rule : ∀ (i j : Int) (t u : Tok) (s : Shared) (Q : Value → Shared → Prop) (E : Value → Shared → Prop), Q (.bool (g i j)) s → wpAny (model X.prog X.w) X.A (f (.int i t) (.int j u)) Q E s) :
    OpR X f (rI0 fun i j => .bl (g i j)) := by
  intro pins s σ H x y v u Q I rx ry h
  obtain ⟨i, j, rfl, rfl, q⟩ := h
  obtain ⟨t, rfl⟩ := rx
  obtain ⟨t', rfl⟩ := ry
  exact rule i j t t' s _ _ ⟨.bl (g i j), H, I, rfl, q⟩

def CDiv (i j : Int) : Prop := 0 < j ∧ j < 1073741824
def CMul (i j : Int) : Prop := (-(2 ^ 64) < i ∧ i < 2 ^ 64) ∨ (-(2 ^ 64) < j ∧ j < 2 ^ 64)
theorem CMul.ok {i j : Int} (h : CMul i j) : IntMulOk i j := by
  rcases h with ⟨h1, h2⟩ | ⟨h1, h2⟩
  · exact .of_left (intBits_le_64 h1 h2)
  · exact .of_right (intBits_le_64 h1 h2)
theorem op_add : OpR X (binaryOp .Add) (rI0 fun i j => .int (i + j)) := opI0 fun _ _ _ _ _ _ _ q => add_int q
theorem op_sub : OpR X (binaryOp .Sub) (rI0 fun i j => .int (i - j)) := opI0 fun _ _ _ _ _ _ _ q => sub_int q
theorem op_mul : OpR X (binaryOp .Mult) (rI CMul fun i j => .int (i * j)) := opI fun _ _ _ _ _ _ _ hc q => mul_int q hc.ok
/-- // by a positive divisor -/
theorem op_fdiv : OpR X (binaryOp .FloorDiv) (rI CDiv fun i j => .int (i / j)) := opI fun i j _ _ _ _ _ hc q => by
  have h1 : (0 : Int) < j := hc.1
  have h2 : j < 1073741824 := hc.2
  exact floordiv_int (by omega) (by rw [Int.fdiv_eq_ediv_of_nonneg i (by omega)]; exact q) (.inl (PyProof.noPylong_small (by omega)))
/-- % by a positive divisor of any size -/
theorem op_mod : OpR X (binaryOp .Mod) (rI (fun _ j => 0 < j) fun i j => .int (i % j)) := opI fun i j _ _ _ _ _ hc q => by
  have h1 : (0 : Int) < j := hc
  exact mod_int' (by omega) (by rw [Int.fmod_eq_emod_of_nonneg i (by omega)]; exact q)
theorem unI {f : Value → Sem Value} {g : Int → Int}
    (rule : ∀ (i : Int) (t : Tok) (s : Shared) (Q : Value → Shared → Prop) (E : Value → Shared → Prop), Q (.int (g i) s.toks) { s with toks := s.toks + 1 } → wpAny (model X.prog X.w) X.A (f (.int i t)) Q E s) :
    UnR X f (rU fun i => .int (g i)) := by
  intro pins s σ H x v Q I rx h
  obtain ⟨i, rfl, q⟩ := h
  obtain ⟨t, rfl⟩ := rx
  exact rule i t s _ _ ⟨.int (g i), H, I.tok _, ⟨_, rfl⟩, q⟩
theorem un_neg : UnR X (unaryOp .USub) (rU fun i => .int (-i)) := unI fun _ _ _ _ _ q => neg_int q
/-! ### bools among ints: n += (a < b) -/
end

/-! ### comparisons -/
/-- the scalars that == tells apart as data does -/
def scal : V → V → Bool
  | .non, .non => true | .non, .int _ => true | .int _, .non => true | .non, .bl _ => true | .bl _, .non => true | .non, .str _ => true | .str _, .non => true
  | .int _, .int _ => true | .bl _, .bl _ => true | .str _, .str _ => true | .byt _, .byt _ => true
  | .int _, .str _ => true | .str _, .int _ => true | .bl _, .str _ => true | .str _, .bl _ => true
  | _, _ => false
def rEq : R2 := fun x y H Q => scal x y = true ∧ Q (.bl (decide (x = y))) H
def rNe : R2 := fun x y H Q => scal x y = true ∧ Q (.bl (!decide (x = y))) H

theorem dec_int {i j : Int} : decide (V.int i = V.int j) = (i == j) := by
  rw [Bool.eq_iff_iff]
  simp
theorem dec_bl {i j : Bool} : decide (V.bl i = V.bl j) = (i == j) := by
  rw [Bool.eq_iff_iff]
  simp
theorem dec_str {i j : Str} : decide (V.str i = V.str j) = (i == j) := by
  rw [Bool.eq_iff_iff]
  simp
theorem dec_byt {i j : Array UInt8} : decide (V.byt i = V.byt j) = (i.toList == j.toList) := by
  rw [Bool.eq_iff_iff]
  cases i
  cases j
  simp

section
variable {X : Cx} {a b c : Expr} {ta tb tc : TE} {pos : Pos}
theorem fin_bl {pins : List (Addr × Obj)} {σ : St} {H : Hp} {s : Shared} {Q : VK} {k k' : Bool} (I : Inv X pins σ H s) (q : Q (.bl k) H) (e : k = k') : EP X pins σ Q (.bool k') s := by
  subst e
  exact ⟨.bl k, H, I, rfl, q⟩
theorem op_eq : OpR X (compareOp .Eq) rEq := by
  intro pins s σ H x y v u Q I rx ry h
  obtain ⟨hs, q⟩ := h
  cases x with
  | non =>
    cases rx
    cases y with
    | non => cases ry; exact PySem.EqNone.eq_none_none (fin_bl I q (by simp))
    | bl j => cases ry; exact PySem.EqNone.eq_none_bool (fin_bl I q (by simp))
    | int j => obtain ⟨t', rfl⟩ := ry; exact PySem.EqNone.eq_none_int (fin_bl I q (by simp))
    | str j => obtain ⟨t', rfl⟩ := ry; exact PySem.EqNone.eq_none_str (fin_bl I q (by simp))
    | _ => exact absurd (show false = true from hs) Bool.false_ne_true
  | bl i =>
    cases rx
    cases y with
    | non => cases ry; exact PySem.EqNone.eq_bool_none (fin_bl I q (by simp))
    | bl j => cases ry; exact eq_bool (fin_bl I q dec_bl)
    | str j => obtain ⟨t', rfl⟩ := ry; exact PySem.EqMixed.eq_bool_str (fin_bl I q (by simp))
    | _ => exact absurd (show false = true from hs) Bool.false_ne_true
  | int i =>
    obtain ⟨t, rfl⟩ := rx
    cases y with
    | non => cases ry; exact PySem.EqNone.eq_int_none (fin_bl I q (by simp))
    | int j => obtain ⟨t', rfl⟩ := ry; exact eq_int (fin_bl I q dec_int)
    | str j => obtain ⟨t', rfl⟩ := ry; exact PySem.EqMixed.eq_int_str (fin_bl I q (by simp))
    | _ => exact absurd (show false = true from hs) Bool.false_ne_true
  | str i =>
    obtain ⟨t, rfl⟩ := rx
    cases y with
    | non => cases ry; exact PySem.EqNone.eq_str_none (fin_bl I q (by simp))
    | bl j => cases ry; exact PySem.EqMixed.eq_str_bool (fin_bl I q (by simp))
    | int j => obtain ⟨t', rfl⟩ := ry; exact PySem.EqMixed.eq_str_int (fin_bl I q (by simp))
    | str j => obtain ⟨t', rfl⟩ := ry; exact eq_str (fin_bl I q dec_str)
    | _ => exact absurd (show false = true from hs) Bool.false_ne_true
  | byt i =>
    obtain ⟨t, rfl⟩ := rx
    cases y with
    | byt j => obtain ⟨t', rfl⟩ := ry; exact PySem.W.eq_bytes (fin_bl I q dec_byt)
    | _ => exact absurd (show false = true from hs) Bool.false_ne_true
  | _ => cases y <;> exact absurd (show false = true from hs) Bool.false_ne_true
theorem op_ne : OpR X (compareOp .NotEq) rNe := by
  intro pins s σ H x y v u Q I rx ry h
  obtain ⟨hs, q⟩ := h
  cases x with
  | non =>
    cases rx
    cases y with
    | non => cases ry; exact PySem.EqNone.ne_none_none (fin_bl I q (by simp))
    | bl j => cases ry; exact PySem.EqNone.ne_none_bool (fin_bl I q (by simp))
    | int j => obtain ⟨t', rfl⟩ := ry; exact PySem.EqNone.ne_none_int (fin_bl I q (by simp))
    | str j => obtain ⟨t', rfl⟩ := ry; exact PySem.EqNone.ne_none_str (fin_bl I q (by simp))
    | _ => exact absurd (show false = true from hs) Bool.false_ne_true
  | bl i =>
    cases rx
    cases y with
    | non => cases ry; exact PySem.EqNone.ne_bool_none (fin_bl I q (by simp))
    | bl j => cases ry; exact ne_bool (fin_bl I q (congrArg not dec_bl))
    | str j => obtain ⟨t', rfl⟩ := ry; exact PySem.EqMixed.ne_bool_str (fin_bl I q (by simp))
    | _ => exact absurd (show false = true from hs) Bool.false_ne_true
  | int i =>
    obtain ⟨t, rfl⟩ := rx
    cases y with
    | non => cases ry; exact PySem.EqNone.ne_int_none (fin_bl I q (by simp))
    | int j => obtain ⟨t', rfl⟩ := ry; exact ne_int (fin_bl I q (congrArg not dec_int))
    | str j => obtain ⟨t', rfl⟩ := ry; exact PySem.EqMixed.ne_int_str (fin_bl I q (by simp))
    | _ => exact absurd (show false = true from hs) Bool.false_ne_true
  | str i =>
    obtain ⟨t, rfl⟩ := rx
    cases y with
    | non => cases ry; exact PySem.EqNone.ne_str_none (fin_bl I q (by simp))
    | bl j => cases ry; exact PySem.EqMixed.ne_str_bool (fin_bl I q (by simp))
    | int j => obtain ⟨t', rfl⟩ := ry; exact PySem.EqMixed.ne_str_int (fin_bl I q (by simp))
    | str j => obtain ⟨t', rfl⟩ := ry; exact ne_str (fin_bl I q (congrArg not dec_str))
    | _ => exact absurd (show false = true from hs) Bool.false_ne_true
  | byt i =>
    obtain ⟨t, rfl⟩ := rx
    cases y with
    | byt j => obtain ⟨t', rfl⟩ := ry; exact PySem.W.ne_bytes (fin_bl I q (congrArg not dec_byt))
    | _ => exact absurd (show false = true from hs) Bool.false_ne_true
  | _ => cases y <;> exact absurd (show false = true from hs) Bool.false_ne_true

theorem op_lt : OpR X (compareOp .Lt) (rI0 fun i j => .bl (decide (i < j))) := opB0 fun _ _ _ _ _ _ _ q => lt_int q
theorem op_le : OpR X (compareOp .LtE) (rI0 fun i j => .bl (decide (i ≤ j))) := opB0 fun _ _ _ _ _ _ _ q => le_int q
theorem op_gt : OpR X (compareOp .Gt) (rI0 fun i j => .bl (decide (j < i))) := opB0 fun _ _ _ _ _ _ _ q => gt_int q
theorem op_ge : OpR X (compareOp .GtE) (rI0 fun i j => .bl (decide (j ≤ i))) := opB0 fun _ _ _ _ _ _ _ q => ge_int q
theorem nomark (b : Expr) {op : CmpOp} (h : op ≠ .In := by decide) (h2 : op ≠ .NotIn := by decide) : behindInMarks op b = false := by
  have e1 : (op == CmpOp.In) = false := by cases op <;> first | rfl | exact absurd rfl h
  have e2 : (op == CmpOp.NotIn) = false := by cases op <;> first | rfl | exact absurd rfl h2
  cases b <;> simp [behindInMarks, e1, e2]
/-- a comparison as a value; hm: nomark b, or (for in, not in) by with_unfolding_all rfl -/
theorem pe_cmpR {op : CmpOp} {r : R2} (ho : OpR X (compareOp op) r) (ha : PE X a ta) (hb : PE X b tb) (hm : behindInMarks op b = false) : PE X (.Compare a [op] [b] pos) (tOp r ta tb) := by
  intro pins s σ H Q I h
  exact wpAny_Compare1 (binT ha hb I h fun v u s2 x y H2 I2 rx ry q => ho pins s2 σ H2 x y v u Q I2 rx ry q) hm
/-- a reading of a value as a test -/
def tTest (t : TE) : TT := fun σ H Q => t σ H fun x H' => ∃ k, x = .bl k ∧ Q k H'
theorem pt_cmpR {op : CmpOp} {r : R2} (ho : OpR X (compareOp op) r) (ha : PE X a ta) (hb : PE X b tb) (hm : behindInMarks op b = false) : PT X (.Compare a [op] [b] pos) (tTest (tOp r ta tb)) := by
  intro pins s σ H Q I h
  refine wpAny_isTrue_Compare1 (thn (ha pins s σ H _ I h) fun v s1 ⟨x, H1, I1, r1, q1⟩ => thn (hb pins s1 σ H1 _ I1 q1) fun u s2 ⟨y, H2, I2, r2, q2⟩ =>
    thn (ho pins s2 σ H2 x y v u _ I2 r1 r2 q2) fun c s3 ⟨z, H3, I3, r3, k, e, q3⟩ => ?_) hm
  subst e
  cases r3
  exact wpAny_truthy_bool ⟨H3, I3, q3⟩
/-! ### truth -/
theorem line63 : (sizeLine : Nat) < 2 ^ 63 := by rw [sizeLine_eq]; decide
/-! ### strs and bytes -/
theorem op_add_str : OpR X (binaryOp .Add) (fun x y H Q => ∃ i j, x = .str i ∧ y = .str j ∧ i.length + j.length ≤ sizeLine ∧ Q (.str (i ++ j)) H) := by
  intro pins s σ H x y v u Q I rx ry h
  obtain ⟨i, j, rfl, rfl, hz, q⟩ := h
  obtain ⟨t, rfl⟩ := rx
  obtain ⟨t', rfl⟩ := ry
  exact add_str (fun t' tk => ⟨.str (i ++ j), H, I.tok _, ⟨_, rfl⟩, q⟩) hz
/-! ### scalar builtins, by CallR -/
theorem vals1 {x : V} {us : List Value} (r : Vals [x] us) : ∃ u, us = [u] ∧ RelV x u := by
  cases r with
  | cons r1 r2 => cases r2; exact ⟨_, rfl, r1⟩
theorem vals2 {x y : V} {us : List Value} (r : Vals [x, y] us) : ∃ u w', us = [u, w'] ∧ RelV x u ∧ RelV y w' := by
  cases r with
  | cons r1 r2 =>
    cases r2 with
    | cons r3 r4 => cases r4; exact ⟨_, _, rfl, r1, r3⟩
theorem call_abs : CallR X (.builtin "abs") (fun xs H Q => ∃ i, xs = [.int i] ∧ Q (.int (if i < 0 then -i else i)) H) := by
  intro pins s σ H xs us Q I r h
  obtain ⟨i, rfl, q⟩ := h
  obtain ⟨u, rfl, t, rfl⟩ := vals1 r
  exact call_abs_int fun u tk => ⟨.int (if i < 0 then -i else i), H, I.tok _, ⟨_, rfl⟩, q⟩
theorem call_min2 (hc : X.calm = true) : CallR X (.builtin "min") (fun xs H Q => ∃ i j, xs = [.int i, .int j] ∧ Q (.int (if j < i then j else i)) H) := by
  intro pins s σ H xs us Q I r h
  obtain ⟨i, j, rfl, q⟩ := h
  obtain ⟨u, w', rfl, ⟨t, rfl⟩, ⟨t', rfl⟩⟩ := vals2 r
  refine min_two_ints (I.ok.hd hc) fun h' tk k => ⟨_, H, I.kept k, ?_, q⟩
  by_cases hj : j < i
  · rw [if_pos hj, if_pos hj]; exact ⟨_, rfl⟩
  · rw [if_neg hj, if_neg hj]; exact ⟨_, rfl⟩
theorem call_str_int : CallR X (.type "str") (fun xs H Q => ∃ i, xs = [.int i] ∧ i.natAbs.log2 < 1920 ∧ Q (.str (toString i)) H) := by
  intro pins s σ H xs us Q I r h
  obtain ⟨i, rfl, hz, q⟩ := h
  obtain ⟨u, rfl, t, rfl⟩ := vals1 r
  exact PySem.P.str_of_int hz ⟨.str _, H, I.tok _, ⟨_, rfl⟩, q⟩
theorem call_ord : CallR X (.builtin "ord") (fun xs H Q => ∃ x, xs = [.str x] ∧ x.length = 1 ∧ Q (.int (x.cps.getD 0 0 : Nat)) H) := by
  intro pins s σ H xs us Q I r h
  obtain ⟨x, rfl, hz, q⟩ := h
  obtain ⟨u, rfl, t, rfl⟩ := vals1 r
  exact ord_of_one hz ⟨.int _, H, I.tok _, ⟨_, rfl⟩, q⟩
/-- len of a str, a bytes, a list, a tuple -/
def LenV (K : PySem.W.Frag) (x : V) (H : Hp) (n : Nat) : Prop :=
  match x with
  | .str y => y.length ≤ sizeLine ∧ n = y.length
  | .byt y => y.size ≤ sizeLine ∧ n = y.size
  | .ref p => (∃ xs, SqL K H p xs ∧ n = xs.length) ∨ ∃ xs, SqT K H p xs ∧ n = xs.length
  | _ => False
theorem call_len : CallR X (.builtin "len") (fun xs H Q => ∃ x n, xs = [x] ∧ LenV X.K x H n ∧ Q (.int n) H) := by
  intro pins s σ H xs us Q I r h
  obtain ⟨x, n, rfl, e, q⟩ := h
  obtain ⟨u, rfl, rx⟩ := vals1 r
  have hl := line63
  have hs : sizeLine = 16777216 := sizeLine_eq
  cases x with
  | str y =>
    obtain ⟨t, rfl⟩ := rx
    obtain ⟨hy, e'⟩ : y.length ≤ sizeLine ∧ n = y.length := e
    subst e'
    exact len_str (by omega) ⟨.int _, H, I.tok _, ⟨_, rfl⟩, q⟩
  | byt y =>
    obtain ⟨t, rfl⟩ := rx
    obtain ⟨hy, e'⟩ : y.size ≤ sizeLine ∧ n = y.size := e
    subst e'
    exact PySem.W.len_bytes (by omega) ⟨.int _, H, I.tok _, ⟨_, rfl⟩, q⟩
  | ref p =>
    cases rx
    have e' : (∃ xs, SqL X.K H p xs ∧ n = xs.length) ∨ ∃ xs, SqT X.K H p xs ∧ n = xs.length := e
    rcases e' with ⟨xs, hx, e'⟩ | ⟨xs, hx, e'⟩
    · subst e'
      obtain ⟨its, r', pl, hz⟩ := I.list hx
      have hlen := r'.length
      exact Calls.call_len_list pl.isList (by simp only [List.size_toArray]; omega) ⟨.int xs.length, H, I.tok _, ⟨_, by simp only [List.size_toArray]; rw [hlen]⟩, q⟩
    · subst e'
      obtain ⟨its, r', pl, hz⟩ := I.tuple hx
      have hlen := r'.length
      exact len_tuple pl (by simp only [List.size_toArray]; omega) ⟨.int xs.length, H, I.tok _, ⟨_, by simp only [List.size_toArray]; rw [hlen]⟩, q⟩
  | _ => exact (show False from e).elim
end
end L2

namespace L2
open PySem PySem.Spec PyProof.Rows

/-! ### an instance, its attributes a map -/
section
variable {prog : Program} {w : World} {A : Around} {E : Value → Shared → Prop} {s : Shared} {K : PySem.W.Frag} {x dx C f : Addr} {mA : Str → Option Value} {name : Str} {v : Value}

end

/-! ### the attributes as a list of pairs -/
section
variable {P : Program} {w : World} {H H' : Hp} {h h' : Heap} {a C dx : Addr} {fs fs' : List (Str × V)}
end

/-! ### what of the text a class must have -/
section
variable {X : Cx} {pins : List (Addr × Obj)} {σ : St} {H : Hp} {s : Shared} {a C dx : Addr} {fs : List (Str × V)} {f : Str} {v : V} {A : Around} {E : Value → Shared → Prop}

end

/-! ### readings and rules -/
section
variable {X : Cx} {o e value : Expr} {f : Str} {pos pos' tpos : Pos} {ta tv : TE}
end

/-! ### isinstance -/
section
variable {X : Cx} {pins : List (Addr × Obj)} {σ : St} {H : Hp} {s : Shared} {A : Around} {E : Value → Shared → Prop} {Q : Value → Shared → Prop} {c : Value} {b : Bool}
end
end L2

namespace L2
open PySem PySem.Spec PyProof.Rows

/-! ### room -/
structure Room (k : Nat) (A : Around) : Prop where
  hd : A.handled = none
  dp : A.depth + 3 * k + 5 < recursionLimit
  un : A.units + 16 * k + 200 < cLine
theorem Room.mono {j k : Nat} {A : Around} (r : Room k A) (h : j ≤ k) : Room j A := ⟨r.hd, by have := r.dp; omega, by have := r.un; omega⟩
theorem Room.deeper {k : Nat} {A : Around} (r : Room (k + 1) A) (env : Env) : Room k (A.deeper env) :=
  ⟨r.hd, by have := r.dp; show A.depth + 1 + 3 * k + 5 < _; omega, by have := r.un; show A.units + 3 + 16 * k + 200 < _; omega⟩
theorem Room.depth {k : Nat} {A : Around} (r : Room k A) : A.depth < recursionLimit := by have := r.dp; omega
theorem Room.units {k : Nat} {A : Around} (r : Room k A) : A.units + 64 < cLine := by have := r.un; omega
/-! ### argument lists and displays -/
def tNil : TA := fun _ H Q => Q [] H
def tCons (ta : TE) (tr : TA) : TA := fun σ H Q => ta σ H fun x H1 => tr σ H1 fun xs H2 => Q (x :: xs) H2
section
variable {X : Cx} {e : Expr} {es : List Expr} {te : TE} {t : TA} {pos : Pos}
theorem pa_nil : PA X [] tNil := fun _ _ _ _ H Q I h => Calls.spliced_nil ⟨[], H, I, .nil, h⟩
theorem pa_cons (ha : PE X e te) (hr : PA X es t) (hs : starEach (e :: es) X.env = (false, eval e X.env) :: starEach es X.env := by rfl) : PA X (e :: es) (tCons te t) := by
  intro pos pins s σ H Q I h
  rw [hs]
  show wpAny _ _ (spliced ((false, eval e X.env) :: backTo pos (starEach es X.env))) _ _ s
  refine Calls.spliced_cons (thn (ha pins s σ H _ I h) fun u s1 ⟨x, H1, I1, r1, q1⟩ => ?_)
  exact thn (hr pos pins s1 σ H1 _ I1 q1) fun us s2 ⟨xs, H2, I2, r2, q2⟩ => ⟨x :: xs, H2, I2, .cons r1 r2, q2⟩

/-- a tuple, a list of written items -/
def tTup (t : TA) : TE := fun σ H Q => t σ H fun xs H1 => xs.length ≤ sizeLine ∧ ∀ p, H1 p = none → Q (.ref p) (upd H1 p (.tup xs))
def tLst (t : TA) : TE := fun σ H Q => t σ H fun xs H1 => xs.length ≤ sizeLine ∧ ∀ p, H1 p = none → Q (.ref p) (upd H1 p (.lst xs))
theorem pe_tup {x1} (h : PA X es t) : PE X (.Tuple es x1 pos) (tTup t) := by
  intro pins s σ H Q I hq
  refine wpAny_Tuple_spliced (thn (h pos pins s σ H _ I hq) fun us s1 ⟨xs, H1, I1, r, z, q⟩ => ⟨by rw [← r.length]; exact z, ?_⟩)
  have hf : H1 s1.heap.objs.size = none := I1.hok.fresh (Nat.le_refl _)
  refine ⟨.ref s1.heap.objs.size, upd H1 s1.heap.objs.size (.tup xs), I1.laid (t' := s1.toks) (fun b u e => Heap.get?_push_of_some _ e) (Nat.le_refl _) ?_, rfl, q _ hf⟩
  exact ⟨z, us, r, ⟨_, Heap.get?_push_size _ rfl, rfl, _, rfl⟩⟩
theorem pe_lst (h : PA X es t) : PE X (.List es pos) (tLst t) := by
  intro pins s σ H Q I hq
  refine wpAny_List_spliced (thn (h pos pins s σ H _ I hq) fun us s1 ⟨xs, H1, I1, r, z, q⟩ => ⟨by rw [← r.length]; exact z, ?_⟩)
  have hf : H1 s1.heap.objs.size = none := I1.hok.fresh (Nat.le_refl _)
  refine ⟨.ref s1.heap.objs.size, upd H1 s1.heap.objs.size (.lst xs), I1.laid (t' := s1.toks) (fun b u e => Heap.get?_push_of_some _ e) (Nat.le_refl _) ?_, rfl, q _ hf⟩
  exact ⟨z, us, 0, r, Heap.get?_push_size _ rfl⟩
end

/-! ### what a def promises -/
/-- a def's promise: the bound arguments in the parameters' order, the heap, the wanted end, the wanted exception -/
abbrev Sp := List V → Hp → VK → XK → Prop
/-- how an exception lies behind a call (file 08 gives it): the callers' frames, abstract heap and state ahead of the call, the wish, the exception, the state -/
abbrev CXT := List Env → Hp → Shared → XK → Value → Shared → Prop

/-- the state at a call -/
structure Env0 (P : Program) (w : World) (K : PySem.W.Frag) (mg : Str → Option Value) (base : Heap) (A : Around) (outer : List Env) (s : Shared) (H : Hp) : Prop where
  frames : A.frames = some outer
  mod : Mod K mg base
  bs : ∀ b o, base.get? b = some o → s.heap.get? b = some o ∧ H b = none
  bsz : base.objs.size ≤ s.heap.objs.size
  funs : s.heap.FunFrames base outer
  frf : ∀ b ∈ frs outer, H b = none
  hok : HOk P w H s.heap
  bare : AllBare s.gens
/-- a call's end -/
def CE (outer : List Env) (P : Program) (w : World) (H : Hp) (s : Shared) (Q : VK) (u : Value) (s' : Shared) : Prop :=
  ∃ v H', s'.os = s.os ∧ AllBare s'.gens ∧ Un (frs outer) [] H H' s.heap s'.heap ∧ HOk P w H' s'.heap ∧ RelV v u ∧ Q v H'
def CR (CX : CXT) (outer : List Env) (P : Program) (w : World) (H : Hp) (s : Shared) (Q : VK) (E : XK) (r : Result) (s' : Shared) : Prop :=
  match r with
  | .ok (.ret u) => CE outer P w H s Q u s'
  | .ok _ => False
  | .error e => CX outer H s E e s'
structure FnOk (P : Program) (w : World) (K : PySem.W.Frag) (mg : Str → Option Value) (base : Heap) (CX : CXT) (k : Nat) (f : Addr) (fd : FuncData) (ps : List Str) (sp : Sp) : Prop where
  len : ∀ vs H Q E, sp vs H Q E → vs.length = ps.length
  run : ∀ (A : Around) (outer : List Env) (s : Shared) (H : Hp) (args : Args) (us : List Value) (vs : List V) (Q : VK) (E : XK), Room k A → Env0 P w K mg base A outer s H → BindsTo s fd args (ps.zip us) → Vals vs us → sp vs H Q E →
    codeAny (model P w) A (.call (.ref f) args) (CR CX outer P w H s Q E) s
section
variable {X : Cx} {pins : List (Addr × Obj)} {σ : St} {H : Hp} {s s' : Shared}
/-- from a body: what a callee wants -/
theorem Inv.env0 (I : Inv X pins σ H s) : Env0 X.prog X.w X.K X.mg X.base X.A X.stack s H :=
  ⟨I.ok.frames, I.ok.mod, I.bs, Nat.le_trans I.ok.bsz I.sz, I.stack, I.stkFree, I.hok, I.bare⟩
/-- behind a call -/
theorem Inv.after {Q : VK} {u : Value} (I : Inv X pins σ H s) (h : CE X.stack X.prog X.w H s Q u s') : EP X pins σ Q u s' := by
  obtain ⟨v, H', os, bare, un, hok, r, q⟩ := h
  obtain ⟨hh, g, d, t, os'⟩ := s'
  obtain rfl : os' = s.os := os
  exact ⟨v, H', I.call (h' := hh) (g' := g) (d' := d) (t' := t) (ch := []) un hok bare (fun b z => absurd z (by simp)), r, q⟩
end

/-! ### calls -/
/-- f(..): the written arguments, then the defaults dvs; E: what is wanted of an exception -/
def tCall (sp : Sp) (dvs : List V) (E : XK) (t : TA) : TE := fun σ H Q => t σ H fun vs H1 => sp (vs ++ dvs) H1 Q E
/-- how the parameters are bound: us the positional arguments, kw the keywords' values by name, ds the defaults that fill up -/
def Binds (K : PySem.W.Frag) (fd : FuncData) (ps : List Str) (ds : List Value) : Prop :=
  ∀ (s : Shared) (us : List Value), K.In s.heap → (us ++ ds).length = ps.length → BindsTo s fd ⟨us, []⟩ (ps.zip (us ++ ds))
/-- every parameter is given -/
theorem Binds.all {K : PySem.W.Frag} {fd : FuncData} {ps : List Str} (h : ∀ us : List Value, us.length = ps.length → bindArgs fd ⟨us, []⟩ = pure (ps.zip us)) : Binds K fd ps [] := fun s us _ hl => by
  rw [List.append_nil] at hl ⊢
  exact .of_eq (h us hl)

/-- an exception of a callee reaches what this body wants of exceptions -/
def Passes (CX : CXT) (X : Cx) (E : XK) : Prop := ∀ (pins : List (Addr × Obj)) (σ : St) (H : Hp) (s : Shared) (e : Value) (s' : Shared), Inv X pins σ H s → CX X.stack H s E e s' → X.xe e s'

section
variable {X : Cx} {CX : CXT} {k : Nat} {f C : Addr} {fd : FuncData} {ps : List Str} {sp : Sp} {dvs : List V} {ds : List Value} {E : XK} {x m : Str} {p pos apos : Pos} {e o : Expr} {es : List Expr} {ta : TE} {t : TA}

/-- the callee runs -/
theorem run_fn {pins : List (Addr × Obj)} {σ : St} {H : Hp} {s : Shared} {Q : VK} {us : List Value} {vs : List V} (F : FnOk X.prog X.w X.K X.mg X.base CX k f fd ps sp) (hr : Room k X.A) (hb : Binds X.K fd ps ds) (hd : Vals dvs ds) (hx : Passes CX X E)
    (I : Inv X pins σ H s) (r : Vals vs us) (h : sp (vs ++ dvs) H Q E) : wpAny (model X.prog X.w) X.A (call (.ref f) us) (EP X pins σ Q) X.xe s := by
  have r2 : Vals (vs ++ dvs) (us ++ ds) := r.append hd
  have hl : (us ++ ds).length = ps.length := by rw [← r2.length]; exact F.len _ _ _ _ h
  refine wpAny_call (codeAny_mono (F.run X.A X.stack s H ⟨us, []⟩ (us ++ ds) (vs ++ dvs) Q E hr I.env0 (hb s us I.kIn hl) r2 h) fun r s' hq => ?_)
  cases r with
  | error e => exact hx pins σ H s e s' I hq
  | ok fl =>
    cases fl with
    | ret u => exact I.after hq
    | next => exact False.elim hq
    | brk => exact False.elim hq
    | cont => exact False.elim hq

theorem pe_call (F : FnOk X.prog X.w X.K X.mg X.base CX k f fd ps sp) (hr : Room k X.A) (hg : Gl X x) (hm : X.mg x = some (.ref f)) (hk : PySem.W.keepIn X.K (.ref f) = true) (hb : Binds X.K fd ps ds) (hd : Vals dvs ds) (hx : Passes CX X E)
    (ha : PA X (e :: es) t) (hdb : (x == ("__debug__" : Str)) = false := by decide) (he : starEach (e :: es) X.env = (false, eval e X.env) :: starEach es X.env := by rfl) (hpl : (backTo pos (starEach es X.env)).any (·.1) = false := by rfl) :
    PE X (.Call (.Name x p) (e :: es) [] pos) (tCall sp dvs E t) := by
  intro pins s σ H Q I h
  refine wpAny_Call_Name_kw (ld_glob I hg hm ?_ hdb)
  refine PySem.W.callWith_K (h₀ := X.base) I.ok.mod.kin hk (thn (ha pos pins s σ H _ I h) fun us s1 ⟨vs, H1, I1, r, q⟩ => ⟨I1.kIn, ?_⟩) he hpl
  exact run_fn F hr hb hd hx I1 r q
end

/-! ### keywords -/
section
variable {X : Cx} {CX : CXT} {k : Nat} {f C : Addr} {fd : FuncData} {ps ks : List Str} {sp : Sp} {E : XK} {x m : Str} {p pos apos kpos : Pos} {e o : Expr} {es : List Expr} {kws : List Keyword} {te ta : TE} {t tk : TA} {nm : Option Str}
variable {g : List Value → List Value → List Value} {gV : List V → List V → List V}
end

/-! ### a def's body keeps its promise -/
/-- names: the parameters first -/
structure FnScope (N P : List Str) (sc : Scope) : Prop where
  kind : sc.kind = .function
  co : sc.isCoroutine = false
  gen : sc.isGenerator = false
  nd : N.Nodup
  pre : N.take P.length = P
  par : ∀ x ∈ P, sc.names.lookup x = some .local ∨ sc.names.lookup x = some .cell
  nofree : ∀ y ∈ sc.names, y.2 ≠ .free

theorem bindL_out {kindOf : Str → Option NameKind} {x : Str} : ∀ {binds : List (Str × Value)} {m : Str → Option Value}, (∀ v, (x, v) ∉ binds) → bindL kindOf binds m x = m x
  | [], _, _ => rfl
  | (n, v) :: r, m, h => by
    unfold bindL
    rw [bindL_out fun w hw => h w (List.mem_cons_of_mem _ hw)]
    split
    · have : x ≠ n := by rintro rfl; exact h v List.mem_cons_self
      simp [this]
    · rfl
theorem bindC_out {kindOf : Str → Option NameKind} {x : Str} : ∀ {binds : List (Str × Value)} {m : Str → Option Value}, (∀ v, (x, v) ∉ binds) → bindC kindOf binds m x = m x
  | [], _, _ => rfl
  | (n, v) :: r, m, h => by
    unfold bindC
    rw [bindC_out fun w hw => h w (List.mem_cons_of_mem _ hw)]
    split
    · rfl
    · have : x ≠ n := by rintro rfl; exact h v List.mem_cons_self
      simp [this]
theorem bindL_get {kindOf : Str → Option NameKind} {x : Str} {v : Value} : ∀ {P : List Str} {vs : List Value} {i : Nat} {m : Str → Option Value}, P.Nodup → P[i]? = some x → vs[i]? = some v → kindOf x = some .local →
    bindL kindOf (P.zip vs) m x = some v
  | [], _, _, _, _, h, _, _ => by simp at h
  | _ :: _, [], _, _, _, _, h, _ => by simp at h
  | p :: P, w :: vs, 0, m, nd, h1, h2, hk => by
    simp at h1 h2; subst h1; subst h2
    show bindL kindOf ((p, w) :: P.zip vs) m p = _
    unfold bindL
    rw [bindL_out fun v hv => (List.nodup_cons.mp nd).1 (List.of_mem_zip hv).1, if_pos hk]
    simp
  | p :: P, w :: vs, i + 1, m, nd, h1, h2, hk => by
    show bindL kindOf ((p, w) :: P.zip vs) m x = _
    unfold bindL
    exact bindL_get (i := i) (List.nodup_cons.mp nd).2 (by simpa using h1) (by simpa using h2) hk
theorem bindC_get {kindOf : Str → Option NameKind} {x : Str} {v : Value} : ∀ {P : List Str} {vs : List Value} {i : Nat} {m : Str → Option Value}, P.Nodup → P[i]? = some x → vs[i]? = some v → kindOf x ≠ some .local →
    bindC kindOf (P.zip vs) m x = some v
  | [], _, _, _, _, h, _, _ => by simp at h
  | _ :: _, [], _, _, _, _, h, _ => by simp at h
  | p :: P, w :: vs, 0, m, nd, h1, h2, hk => by
    simp at h1 h2; subst h1; subst h2
    show bindC kindOf ((p, w) :: P.zip vs) m p = _
    unfold bindC
    rw [bindC_out fun v hv => (List.nodup_cons.mp nd).1 (List.of_mem_zip hv).1, if_neg hk]
    simp
  | p :: P, w :: vs, i + 1, m, nd, h1, h2, hk => by
    show bindC kindOf ((p, w) :: P.zip vs) m x = _
    unfold bindC
    exact bindC_get (i := i) (List.nodup_cons.mp nd).2 (by simpa using h1) (by simpa using h2) hk

/-- the names' values at the entry -/
def start (N : List Str) (vs : List V) : St := vs.map some ++ List.replicate (N.length - vs.length) none

/-- the context of a def's body, at its entry; an exception leaves the frame, then lies as CX says -/
def cxOf (CX : CXT) (P : Program) (w : World) (K : PySem.W.Frag) (mg : Str → Option Value) (base : Heap) (N : List Str) (qual : Str) (scope : Scope) (f : Addr) (cd : Value) (A : Around) (outer : List Env) (s : Shared) (H : Hp) (E : XK) : Cx where
  prog := P
  w := w
  K := K
  mg := mg
  base := base
  A := A.deeper (envOfC qual scope s.heap.objs.size f cd)
  N := N
  s_0 := s
  H_0 := H
  env := envOfC qual scope s.heap.objs.size f cd
  outer := outer
  stack := envOfC qual scope s.heap.objs.size f cd :: outer
  ex := []
  calm := true
  fn := fun _ => true
  pn := []
  xe := fun e s' => wpAny (model P w) (A.deeper (envOfC qual scope s.heap.objs.size f cd)) (leaving (envOfC qual scope s.heap.objs.size f cd) e) (fun _ s'' => CX outer H s E e s'') (fun e' s'' => CX outer H s E e' s'') s'

theorem cell_has {sc : Scope} {n : Nat} {x : Str} (h : sc.names.lookup x = some .cell) : ∃ c, (cellsFrom n sc.names []).lookup x = some c := by
  have q := PySem.W.cellsFrom_some sc.names n [] (.inl h)
  exact Option.isSome_iff_exists.mp q

theorem inv_start {CX : CXT} {P : Program} {w : World} {K : PySem.W.Frag} {mg : Str → Option Value} {base : Heap} {N ps : List Str} {qual : Str} {scope : Scope} {f : Addr} {cd : Value} {A : Around} {outer : List Env} {s s1 : Shared} {H : Hp} {E : XK} {us : List Value} {vs : List V}
    (S : FnScope N ps scope) (hd : A.handled = none) (e0 : Env0 P w K mg base A outer s H) (hl : vs.length = ps.length) (r : Vals vs us)
    (x : InCallC s s.heap.objs.size (bindL (envOfC qual scope s.heap.objs.size f cd).kindOf (ps.zip us) fun _ => none) (cellsFrom (s.heap.objs.size + 1) scope.names []) (bindC (envOfC qual scope s.heap.objs.size f cd).kindOf (ps.zip us) fun _ => none) s1) :
    Inv (cxOf CX P w K mg base N qual scope f cd A outer s H E) [] (start N vs) H s1 := by
  have hpl : ps.length ≤ N.length := by have := congrArg List.length S.pre; rw [List.length_take] at this; omega
  obtain ⟨h1, tk, rfl, hk⟩ := x.done
  have noA : ∀ b : Addr, b ∉ (cxOf CX P w K mg base N qual scope f cd A outer s H E).ex := fun b z => absurd (show b ∈ ([] : List Addr) from z) (by simp)
  refine ⟨⟨e0.mod, S.kind, rfl, rfl, Nat.le_refl _, fun y z c h1 h2 => ?_, fun y hy => ?_, fun y c _ h => ?_, fun _ => hd, Around.frames_deeper e0.frames, .inr ⟨rfl, rfl⟩, fun b z => absurd z (noA b), e0.bs, e0.bsz, fun b _ _ => noA b, fun b z => absurd z (noA b), e0.funs, e0.frf⟩,
    rfl, e0.bare, Un.kept hk, ⟨_, x.toInCall.ns, fun i y v h1 h2 h3 => ?_⟩, fun y c h => ⟨_, x.cell y c h⟩, e0.hok.fresh (Nat.le_refl _), fun y c h => ?_, fun p hp => absurd (show p ∈ ([] : List (Addr × Obj)) from hp) (by simp), e0.hok.kept hk, ?_⟩
  · exact name_of_addr x.apart (PySem.mem_of_lookup h1) (PySem.mem_of_lookup h2)
  · have hy : scope.names.lookup y = some .cell ∨ scope.names.lookup y = some .free := hy
    rcases hy with hy | hy
    · exact cell_has hy
    · exact absurd rfl (S.nofree _ (PySem.mem_of_lookup hy))
  · exact Nat.le_of_lt (x.above y c (PySem.mem_of_lookup h))
  · have hi : i < vs.length := by
      unfold start at h2
      by_cases hi : i < vs.length
      · exact hi
      · rw [List.getElem?_append_right (by simpa using hi)] at h2
        rw [List.getElem?_replicate] at h2
        split at h2 <;> cases h2
    have ha : vs[i]? = some v := by
      unfold start at h2
      rw [List.getElem?_append_left (by simpa using hi), List.getElem?_map] at h2
      cases e : vs[i]? with
      | none => rw [e] at h2; cases h2
      | some a => rw [e] at h2; cases h2; rfl
    obtain ⟨u, hu, rv⟩ := r.get ha
    have hp : ps[i]? = some y := by
      rw [← S.pre, List.getElem?_take_of_lt (by omega)]; exact h1
    have ndP : ps.Nodup := by rw [← S.pre]; exact S.nd.sublist (List.take_sublist _ _)
    refine ⟨u, rv, ?_⟩
    rcases S.par y (List.mem_of_getElem? hp) with k | k
    · exact .inl ⟨k, bindL_get ndP hp hu k⟩
    · obtain ⟨c, e⟩ := cell_has (n := s.heap.objs.size + 1) k
      refine .inr ⟨.inl k, c, e, ?_⟩
      have q := x.cell y c e
      rw [bindC_get ndP hp hu (by show scope.names.lookup y ≠ _; rw [k]; decide)] at q
      exact q
  · exact e0.hok.fresh (Nat.le_of_lt (x.above y c (PySem.mem_of_lookup h)))
  · unfold start
    show _ = N.length
    rw [List.length_append, List.length_map, List.length_replicate]
    omega

/-- THE RULE: a def (or a method) of the text, by its body. The body's reading t is chosen for each entry; it is run at the parameters' values -/
theorem fn_of {CX : CXT} {P : Program} {w : World} {K : PySem.W.Frag} {mg : Str → Option Value} {base : Heap} {k : Nat} {f : Addr} {name qual : Str} {params : Arguments} {body : List Stmt} {scope : Scope} {dV kV doc pm cdv ct oc : Value} {an od : Option Addr}
    {osl : Array (Option Value)} {N ps : List Str} {sp : Sp} (lk : K.lookup f = some ⟨oc, od, .func (PySem.W.fnOf name qual params body scope dV kV doc pm an cdv ct), osl⟩) (hcd : PySem.W.codeIn K cdv qual = true) (S : FnScope N ps scope)
    (len : ∀ vs H Q E, sp vs H Q E → vs.length = ps.length)
    (hbody : ∀ (A : Around) (outer : List Env) (s : Shared) (H : Hp) (vs : List V) (Q : VK) (E : XK), Room k (A.deeper (envOfC qual scope s.heap.objs.size f cdv)) → sp vs H Q E →
      ∃ t, PSs (cxOf CX P w K mg base N qual scope f cdv A outer s H E) body t ∧ t { nx := fun _ H' => Q .non H', rt := Q } (start N vs) H) :
    FnOk P w K mg base CX (k + 1) f (PySem.W.fnOf name qual params body scope dV kV doc pm an cdv ct) ps sp := by
  refine ⟨len, fun A outer s H args us vs Q E hr e0 hb r hsp => ?_⟩
  have hl := len _ _ _ _ hsp
  have KX : K.In s.heap := e0.mod.kin.keeps fun b o e => (e0.bs b o e).1
  have lim : s.heap.NoLimit := e0.mod.nolimit.keeps fun b o e => (e0.bs b o e).1
  have hkind : ∀ y ∈ ps.zip us, scope.names.lookup y.1 = some .local ∨ (scope.names.lookup y.1 = some .cell ∧ ((cellsFrom (s.heap.objs.size + 1) scope.names []).lookup y.1).isSome = true) := fun ⟨n, v⟩ hy => by
    rcases S.par n (List.of_mem_zip hy).1 with q | q
    · exact .inl q
    · exact .inr ⟨q, PySem.W.cellsFrom_some _ _ _ (.inl q)⟩
  refine codeAny_call_function hr.depth (KX _ _ lk) rfl S.co S.gen rfl (PySem.W.codeRec_of KX hcd) (hb _ _ _ _ ?_)
  refine wpAny_newFunctionEnv_cells S.kind hkind fun env he s1 x => ?_
  subst he
  refine ⟨lim.keeps x.toInCall.keep, codeAny_func ?_⟩
  obtain ⟨t, ht, hq⟩ := hbody A outer s H vs Q E (hr.deeper _) hsp
  have I : Inv (cxOf CX P w K mg base N qual scope f cdv A outer s H E) [] (start N vs) H s1 := inv_start S hr.hd e0 hl r x
  refine wpAny_mono (ht [] s1 (start N vs) H _ I hq) (fun fl s' hs => ?_) fun e s' hs => hs
  have fin : ∀ {σ' : St} {H' : Hp} {v : V} {u : Value}, Inv (cxOf CX P w K mg base N qual scope f cdv A outer s H E) [] σ' H' s' → RelV v u → Q v H' → CE outer P w H s Q u s' :=
    fun {σ' H' v u} J rv q => ⟨v, H', J.os, J.bare, J.base, J.hok, rv, q⟩
  cases fl with
  | ret u =>
    obtain ⟨v, σ', H', J, rv, q⟩ := hs
    exact fin J rv q
  | next =>
    obtain ⟨σ', H', J, q⟩ := hs
    exact fin (v := V.non) (u := Value.none) J rfl q
  | brk =>
    obtain ⟨_, _, _, q⟩ := hs
    exact False.elim q
  | cont =>
    obtain ⟨_, _, _, q⟩ := hs
    exact False.elim q
end L2

namespace L2
open PySem PySem.Spec PyProof.Rows
section
variable {X : Cx} {x : Str} {p pos : Pos} {e : Expr} {es : List Expr} {t : TA} {id T : String} {r : List V → Hp → VK → Prop}

def tCB (r : List V → Hp → VK → Prop) (t : TA) : TE := fun σ H Q => t σ H fun vs H1 => r vs H1 Q
/-- f(e, ..), f a built-in function -/
theorem pe_callB (hc : CallR X (.builtin id) r) (hg : Gl X x) (hm : X.mg x = none) (hv : bootBuiltins x = some (.builtin id)) (ha : PA X (e :: es) t) (hn : x ≠ "__name__" := by decide) (hdb : (x == ("__debug__" : Str)) = false := by decide)
    (he : starEach (e :: es) X.env = (false, eval e X.env) :: starEach es X.env := by rfl) (hpl : (backTo pos (starEach es X.env)).any (·.1) = false := by rfl) : PE X (.Call (.Name x p) (e :: es) [] pos) (tCB r t) := by
  intro pins s σ H Q I h
  refine wpAny_Call_Name_kw (ld_blt I hg hm hv ?_ hn hdb)
  exact PyProof.Rows.callWith_builtin1 (thn (ha pos pins s σ H _ I h) fun us s1 ⟨vs, H1, I1, r1, q1⟩ => hc pins s1 σ H1 vs us Q I1 r1 q1) he hpl
/-- T(e, ..), T a built-in type -/
theorem pe_callTy (hc : CallR X (.type T) r) (hg : Gl X x) (hm : X.mg x = none) (hv : bootBuiltins x = some (.type T)) (ha : PA X (e :: es) t) (hn : x ≠ "__name__" := by decide) (hdb : (x == ("__debug__" : Str)) = false := by decide)
    (he : starEach (e :: es) X.env = (false, eval e X.env) :: starEach es X.env := by rfl) (hpl : (backTo pos (starEach es X.env)).any (·.1) = false := by rfl) : PE X (.Call (.Name x p) (e :: es) [] pos) (tCB r t) := by
  intro pins s σ H Q I h
  refine wpAny_Call_Name_kw (ld_blt I hg hm hv ?_ hn hdb)
  exact PyProof.Rows.callWith_type1 (thn (ha pos pins s σ H _ I h) fun us s1 ⟨vs, H1, I1, r1, q1⟩ => hc pins s1 σ H1 vs us Q I1 r1 q1) he hpl
end
end L2

namespace HT
open PySem PyProof.Rows

section
open PySem.SeqAt
open PySem.AutoSeq1 (wpAny_loadPart')
open PySem.MeetsSeq PySem.MeetsSeq2 PySem.MeetsSeq3

end

section
variable {prog : Program} {w : World} {A : Around} {E : Value → Shared → Prop} {s : Shared}

/-! ### t[a:b], not the whole -/
/-- a slice's bound as a place among n (d where it is left out) -/
def sIx (n d : Nat) : Option Int → Nat
  | none => d
  | some v => if v < 0 then (v + (n : Int)).toNat else min v.toNat n
end
end HT

namespace L2
open PySem PySem.Spec PyProof.Rows

/-! ### the parts of a slice -/
abbrev TO := St → Hp → (Option Int → Hp → Prop) → Prop
/-- a slice's part (left out, or an int) -/
def PO (X : Cx) (e : Option Expr) (t : TO) : Prop :=
  ∀ (pins : List (Addr × Obj)) (s : Shared) (σ : St) (H : Hp) (Q : Option Int → Hp → Prop), Inv X pins σ H s → t σ H Q →
    wpAny (model X.prog X.w) X.A (evalPart e X.env) (fun u s' => ∃ o H', Inv X pins σ H' s' ∧ IsPart u o ∧ Q o H') X.xe s
def tNoPart : TO := fun _ H Q => Q none H
def tPart (t : TE) : TO := fun σ H Q => t σ H fun x H1 => ∃ i, x = .int i ∧ Q (some i) H1

section
variable {X : Cx} {e : Expr} {te : TE} {lo hi : Option Expr} {tl th : TO} {pos p2 : Pos}

theorem po_none : PO X none tNoPart := by
  intro pins s σ H Q I h
  rw [evalPart_none]
  exact wpAny_pure ⟨none, H, I, .none, h⟩
theorem po_some (h : PE X e te) : PO X (some e) (tPart te) := by
  intro pins s σ H Q I hw
  rw [evalPart_some]
  refine thn (h pins s σ H _ I hw) fun u s1 ⟨x, H1, I1, r1, q1⟩ => ?_
  obtain ⟨i, rfl, q⟩ := q1
  obtain ⟨t, rfl⟩ := r1
  exact ⟨some i, H1, I1, .int i t, q⟩

/-- what a slice of a value is, by values: the slice object stands at sl -/
def SlR (X : Cx) (r : V → Option Int → Option Int → Hp → VK → Prop) : Prop :=
  ∀ (pins : List (Addr × Obj)) (s : Shared) (σ : St) (H : Hp) (x : V) (v vl vu : Value) (lo hi : Option Int) (sl : Addr) (Q : VK), Inv X pins σ H s → RelV x v → s.heap.IsSliceOf sl vl vu .none → IsPart vl lo → IsPart vu hi → r x lo hi H Q →
    ∃ T id, typeLookup (.type T) "__getitem__" = pure (some (.builtin id)) ∧ s.TypeIs v T ∧ wpAny (model X.prog X.w) X.A (getItem v (.ref sl)) (EP X pins σ Q) X.xe s
def tSl (r : V → Option Int → Option Int → Hp → VK → Prop) (te : TE) (tl th : TO) : TE := fun σ H Q => te σ H fun x H1 => tl σ H1 fun l H2 => th σ H2 fun u H3 => r x l u H3 Q
/-- a[lo:hi], any a -/
theorem pe_slice {r : V → Option Int → Option Int → Hp → VK → Prop} (hr : SlR X r) (he : PE X e te) (hl : PO X lo tl) (hu : PO X hi th) : PE X (.Subscript e (.Slice lo hi none p2) pos) (tSl r te tl th) := by
  intro pins s σ H Q I h
  refine Subscript_ (thn (he pins s σ H _ I h) fun v s1 ⟨x, H1, I1, r1, q1⟩ => ?_)
  refine wpAny_Slice (thn (hl pins s1 σ H1 _ I1 q1) fun vl s2 ⟨l, H2, I2, pl, q2⟩ => thn (hu pins s2 σ H2 _ I2 q2) fun vu s3 ⟨u, H3, I3, pu, q3⟩ => ?_)
  rw [evalPart_none]
  refine wpAny_pure ?_
  have I4 : Inv X pins σ H3 { s3 with heap := s3.heap.push { cls := .type "slice", data := .fields #[vl, vu, .none] } } := I3.kept (t' := s3.toks) fun b ob q => Heap.get?_push_of_some _ q
  obtain ⟨T, id, hT, ht, hg⟩ := hr pins { s3 with heap := s3.heap.push { cls := .type "slice", data := .fields #[vl, vu, .none] } } σ H3 x v vl vu l u s3.heap.objs.size Q I4 r1 (Heap.IsSliceOf.new ..) pl pu q3
  show wpAny (model X.prog X.w) X.A (subscriptTail e (.Slice lo hi none p2) v (.ref s3.heap.objs.size)) (EP X pins σ Q) X.xe { s3 with heap := s3.heap.push { cls := .type "slice", data := .fields #[vl, vu, .none] } }
  exact tail_any (ops := [.ref s3.heap.objs.size, v]) ht hT hg (by with_unfolding_all rfl)

/-- the items of xs[lo:hi] -/
def cutV (xs : List V) (lo hi : Option Int) : List V := (xs.drop (HT.sIx xs.length 0 lo)).take (HT.sIx xs.length xs.length hi - HT.sIx xs.length 0 lo)
theorem cutV_length (xs : List V) (lo hi : Option Int) : (cutV xs lo hi).length ≤ xs.length := by
  unfold cutV
  rw [List.length_take, List.length_drop]
  omega
/-! ### t < u, t + u -/
end
end L2

namespace L2
open PySem PySem.Spec PyProof.Rows

/-! ### places -/
/-- the place that an index of any sign means -/
def ixN (n : Nat) (i : Int) : Option Nat := if 0 ≤ i then (if i < n then some i.toNat else none) else if -(n : Int) ≤ i then some (i + n).toNat else none
def atI {α : Type} (xs : List α) (i : Int) : Option α := (ixN xs.length i).bind fun j => xs[j]?
theorem ixN_seq {n : Nat} {i : Int} {j : Nat} (h : ixN n i = some j) : seqIndex? i n = some j ∧ j < n ∧ -(n : Int) ≤ i ∧ i < n := by
  unfold ixN at h
  by_cases h0 : 0 ≤ i
  · rw [if_pos h0] at h
    by_cases h1 : i < n
    · rw [if_pos h1] at h
      have e : i.toNat = j := Option.some.inj h
      exact ⟨by rw [seqIndex_of h0 h1, e], by omega, by omega, h1⟩
    · rw [if_neg h1] at h; cases h
  · rw [if_neg h0] at h
    by_cases h1 : -(n : Int) ≤ i
    · rw [if_pos h1] at h
      have e : (i + n).toNat = j := Option.some.inj h
      exact ⟨by rw [seqIndex_neg (by omega) h1, e], by omega, h1, by omega⟩
    · rw [if_neg h1] at h; cases h
theorem atI_get {α : Type} {xs : List α} {i : Int} {v : α} (h : atI xs i = some v) : ∃ j, seqIndex? i xs.length = some j ∧ xs[j]? = some v ∧ j < xs.length ∧ -(xs.length : Int) ≤ i ∧ i < xs.length := by
  unfold atI at h
  cases e : ixN xs.length i with
  | none => rw [e] at h; cases h
  | some j =>
    rw [e] at h
    obtain ⟨h1, h2, h3, h4⟩ := ixN_seq e
    exact ⟨j, h1, h, h2, h3, h4⟩
theorem atI_nat {α : Type} {xs : List α} {j : Nat} {v : α} (h : xs[j]? = some v) : atI xs (j : Int) = some v := by
  have hj : j < xs.length := (List.getElem?_eq_some_iff.mp h).1
  have e : ixN xs.length (j : Int) = some j := by
    unfold ixN
    rw [if_pos (by omega), if_pos (by omega)]; simp
  unfold atI; rw [e]; exact h
/-! ### what may be subscripted -/
/-- what stands as an index of a plain subscript -/
def PlainIx (b : Expr) : Prop := ∀ o i, subscripted b false o i = operate [o, i] (getItem o i)
/-- a subscript by values -/
def IxR (X : Cx) (r : R2) : Prop :=
  ∀ (value slice : Expr) (pins : List (Addr × Obj)) (s : Shared) (σ : St) (H : Hp) (x y : V) (v u : Value) (Q : VK), Inv X pins σ H s → RelV x v → RelV y u → r x y H Q →
    subscripted slice false v u = operate [v, u] (getItem v u) → wpAny (model X.prog X.w) X.A (subscriptTail value slice v u) (EP X pins σ Q) X.xe s
/-- a call of a builtin's method by values: the receiver, the arguments -/
def MtR (X : Cx) (id : String) (r : V → List V → Hp → VK → Prop) : Prop :=
  ∀ (pins : List (Addr × Obj)) (s : Shared) (σ : St) (H : Hp) (x : V) (xs : List V) (v : Value) (us : List Value) (Q : VK), Inv X pins σ H s → RelV x v → Vals xs us → r x xs H Q →
    wpAny (model X.prog X.w) X.A (call (.builtin id) (v :: us)) (EP X pins σ Q) X.xe s
section
variable {X : Cx} {a b : Expr} {ta tb : TE} {pos : Pos}
/-- a[b] -/
theorem pe_ix {r : R2} (hr : IxR X r) (ha : PE X a ta) (hb : PE X b tb) (hs : PlainIx b) : PE X (.Subscript a b pos) (tOp r ta tb) := by
  intro pins s σ H Q I h
  exact Subscript_ (binT ha hb I h fun v u s2 x y H2 I2 rx ry q => hr a b pins s2 σ H2 x y v u Q I2 rx ry q (hs _ _))

def rIxT (K : PySem.W.Frag) : R2 := fun x y H Q => ∃ p xs i v, x = .ref p ∧ y = .int i ∧ SqT K H p xs ∧ atI xs i = some v ∧ Q v H
theorem ix_tup : IxR X (rIxT X.K) := by
  intro value slice pins s σ H x y v u Q I rx ry h hs
  obtain ⟨p, xs, i, z, rfl, rfl, hq, he, q⟩ := h
  cases rx
  obtain ⟨t, rfl⟩ := ry
  obtain ⟨its, r, pl, hz⟩ := I.tuple hq
  obtain ⟨j, h1, h2, h3, h4, h5⟩ := atI_get he
  obtain ⟨w, ew, rw'⟩ := r.get h2
  have hl := r.length
  have hn := line63
  have fin : EP X pins σ Q w s := ⟨z, H, I, rw', q⟩
  exact subscriptTail_builtinR (x := w) pl.typeIs slot_tuple_getitem.lookup
    (getItem_tuple (j := j) (Q := fun r s' => r = w ∧ EP X pins σ Q r s') pl (by omega) (by omega) (by rw [List.size_toArray, ← hl]; exact h1) (by simpa using ew) ⟨rfl, fin⟩) hs
/-! ### xs[i] = v, any sign -/
/-! ### slices -/
theorem slice_bounds (lo hi : Option Int) (n : Nat) : (sliceBounds lo hi none n).1 = ((HT.sIx n 0 lo : Nat) : Int) ∧ (sliceBounds lo hi none n).2.1 = ((HT.sIx n n hi : Nat) : Int) ∧ (sliceBounds lo hi none n).2.2 = 1 := by
  refine ⟨?_, ?_, rfl⟩
  · cases lo with
    | none => simp [sliceBounds, HT.sIx]
    | some i =>
      simp only [sliceBounds, HT.sIx, Option.getD_none, show (1 : Int) > 0 by decide, if_true]
      by_cases h : i < 0
      · simp only [h, if_true] <;> omega
      · simp only [h, if_false] <;> omega
  · cases hi with
    | none => simp [sliceBounds, HT.sIx]
    | some i =>
      simp only [sliceBounds, HT.sIx, Option.getD_none, show (1 : Int) > 0 by decide, if_true]
      by_cases h : i < 0
      · simp only [h, if_true] <;> omega
      · simp only [h, if_false] <;> omega
theorem slicePick_cut (its : List Value) (lo hi : Option Int) : slicePick its.toArray lo hi none = ((its.drop (HT.sIx its.length 0 lo)).take (HT.sIx its.length its.length hi - HT.sIx its.length 0 lo)).toArray := by
  obtain ⟨h1, h2, h3⟩ := slice_bounds lo hi its.toArray.size
  unfold slicePick
  rw [h1, h2, h3]
  simp only [sliceRange_one, pick_run, List.size_toArray] <;> rfl
/-- xs[lo:hi] of a list: a new list -/
def rSlL (K : PySem.W.Frag) : V → Option Int → Option Int → Hp → VK → Prop := fun x lo hi H Q => ∃ a xs, x = .ref a ∧ SqL K H a xs ∧ ∀ p, H p = none → Q (.ref p) (upd H p (.lst (cutV xs lo hi)))
theorem sl_list : SlR X (rSlL X.K) := by
  intro pins s σ H x v vl vu lo hi sl Q I rx hs pl pu h
  obtain ⟨a, xs, rfl, hx, q⟩ := h
  cases rx
  obtain ⟨its, r, ht, hz⟩ := I.list hx
  have hlen := r.length
  refine ⟨"list", _, slot_list_getitem.lookup, ht.isList.typeIs, ?_⟩
  refine wpAny_getItem_list_slice ht.isList hs pl pu .none (by simp) ?_ (by rw [List.size_toArray] <;> omega)
  rw [slicePick_cut, ← hlen]
  refine ⟨.ref s.heap.objs.size, _, I.laid (t' := s.toks) (o := .lst (cutV xs lo hi)) (fun b ob q => Heap.get?_push_of_some _ q) (Nat.le_refl _) ?_, rfl, q _ (I.hok.fresh (Nat.le_refl _))⟩
  exact ⟨Nat.le_trans (cutV_length xs lo hi) hz, _, 0, (r.drop (HT.sIx xs.length 0 lo)).take (HT.sIx xs.length xs.length hi - HT.sIx xs.length 0 lo), Heap.get?_push_size _ rfl⟩

/-! ### in, not in: flat items -/
/-! ### len, list(x), tuple(x) of any list or tuple that is read -/
/-! ### the call of a builtin's method: o.m(..) -/
variable {o e : Expr} {es : List Expr} {to : TE} {t : TA} {name : Str} {apos cpos : Pos} {T id : String} {r : V → List V → Hp → VK → Prop}
/- xs.append(e), list.index on a module's tuple .. are MtR facts of 06m -/
end
end L2

namespace L2
open PySem PySem.Spec PyProof.Rows

/-! ### lists of values -/
section
variable {X : Cx} {pins : List (Addr × Obj)} {σ : St} {H : Hp} {s : Shared} {l b : Addr} {xs ys zs : List V}

/-! ### the two steps: a tracked list is rewritten, a new list is laid -/
end

section
variable {X : Cx}

/-! ### methods -/
/-! ### list + list, list += list, list * int -/
/-! ### del xs[i] -/
end

/-! ### xs[a:b] = ys -/
section
variable {prog : Program} {w : World} {A : Around} {E : Value → Shared → Prop} {s : Shared}
set_option maxRecDepth 100000 in
end

section
variable {X : Cx}
end
end L2

namespace L2
open PySem PySem.Spec PyProof.Rows

/-! ### the library's walks over a list of ints, kept objects alone -/
section
variable {prog : Program} {w : World} {A : Around} {E : Value → Shared → Prop} {s : Shared} {l : Addr} {its : List Value} {ns : List Int} {Q : Value → Shared → Prop}
end

/-! ### the calls, by values (CallR of 03t; MtR of 06l) -/
section
variable {X : Cx}
/-! sorted, sort (fewer than 64 items: the library's own bound) -/
end

/-! ### list.index, flat items -/
section
variable {X : Cx}
end

/-! ### type(x) of an own instance; is, is not of a module's class -/
section
variable {X : Cx}
end

/-! ### any(xs), all(xs) of a list of bools -/
section
variable {X : Cx}
end

/-! ### == and != of data at any depth: none, bools, ints, texts, lists, tuples -/
mutual
inductive Dp (K : PySem.W.Frag) (H : Hp) : V → PyData → Prop
  | non : Dp K H .non .none
  | bl (b : Bool) : Dp K H (.bl b) (.bool b)
  | int (i : Int) : Dp K H (.int i) (.int i)
  | str (x : Str) : Dp K H (.str x) (.str x)
  | lst {a : Addr} {xs : List V} {ds : List PyData} : SqL K H a xs → DpAll K H xs ds → Dp K H (.ref a) (.list ds)
  | tup {a : Addr} {xs : List V} {ds : List PyData} : SqT K H a xs → DpAll K H xs ds → Dp K H (.ref a) (.tuple ds)
inductive DpAll (K : PySem.W.Frag) (H : Hp) : List V → List PyData → Prop
  | nil : DpAll K H [] []
  | cons {v : V} {vs : List V} {d : PyData} {ds : List PyData} : Dp K H v d → DpAll K H vs ds → DpAll K H (v :: vs) (d :: ds)
end
section
variable {X : Cx} {pins : List (Addr × Obj)} {σ : St} {H : Hp} {s : Shared}
mutual
theorem Dp.reads (I : Inv X pins σ H s) : ∀ (d : PyData) (v : V) (u : Value), Dp X.K H v d → RelV v u → ∃ as, Reads s.heap u d as
  | .none, _, _, h, r => by
    cases h
    cases r
    exact ⟨_, Reads.none⟩
  | .bool b, _, _, h, r => by
    cases h
    cases r
    exact ⟨_, Reads.bool b⟩
  | .int i, _, _, h, r => by
    cases h
    obtain ⟨t, rfl⟩ := r
    exact ⟨_, Reads.int i t⟩
  | .str x, _, _, h, r => by
    cases h
    obtain ⟨t, rfl⟩ := r
    exact ⟨_, Reads.str x t⟩
  | .list ds, _, _, h, r => by
    cases h with
    | lst hs ha =>
      cases r
      obtain ⟨its, rv, ⟨o, n, ho, hc, _, hd⟩, _⟩ := I.list hs
      obtain ⟨as, hr⟩ := Dp.readsAll I ds _ its ha rv
      exact ⟨_, Reads.list ho hc hd hr⟩
  | .tuple ds, _, _, h, r => by
    cases h with
    | tup hs ha =>
      cases r
      obtain ⟨its, rv, ⟨o, ho, hc, n, hd⟩, _⟩ := I.tuple hs
      obtain ⟨as, hr⟩ := Dp.readsAll I ds _ its ha rv
      exact ⟨_, Reads.tuple ho hc hd hr⟩
  | .dict _, _, _, h, _ => by cases h
theorem Dp.readsAll (I : Inv X pins σ H s) : ∀ (ds : List PyData) (vs : List V) (us : List Value), DpAll X.K H vs ds → Vals vs us → ∃ as, ReadsAll s.heap us ds as
  | [], _, _, h, r => by
    cases h
    cases r
    exact ⟨_, ReadsAll.nil⟩
  | d :: ds, _, _, h, r => by
    cases h with
    | cons h1 h2 =>
      cases r with
      | cons r1 r2 =>
        obtain ⟨as, q1⟩ := Dp.reads I d _ _ h1 r1
        obtain ⟨bs, q2⟩ := Dp.readsAll I ds _ _ h2 r2
        exact ⟨_, ReadsAll.cons q1 q2⟩
end
end
section
variable {X : Cx}
def rEqD (K : PySem.W.Frag) : R2 := fun x y H Q => ∃ d e, Dp K H x d ∧ Dp K H y e ∧ SeqAt.shaped d = true ∧ SeqAt.shaped e = true ∧ Q (.bl (PyData.eqv d e)) H
theorem op_eqD (hu : X.A.units + 64 < cLine) : OpR X (compareOp .Eq) (rEqD X.K) := by
  intro pins s σ H x y v u Q I rx ry h
  obtain ⟨d, e, hd, he, sd, se, q⟩ := h
  obtain ⟨as, r1⟩ := Dp.reads I d x v hd rx
  obtain ⟨bs, r2⟩ := Dp.reads I e y u he ry
  exact SeqAt.compareEq_shaped r1 r2 sd se hu ⟨.bl _, H, I, rfl, q⟩
end
end L2

namespace L2
open PySem PySem.Spec PyProof.Rows
abbrev CellAt (h : Heap) (c : Addr) (v : Option Value) : Prop := h.IsCell c v
def relS (scope sc : Scope) : Scope :=
  { scope with names := scope.names.map fun (n, k) => if (k == .free && sc.kind == .function && sc.names.lookup n == some .cell) then (n, .cell) else (n, k) }

def cloFrom (cells : List (Str × Addr)) : List (Str × NameKind) → List (Str × Addr) → List (Str × Addr)
  | [], acc => acc
  | (n, k) :: r, acc => if k == .free then cloFrom cells r ((n, (cells.lookup n).getD 0) :: acc) else cloFrom cells r acc

theorem closure_loop (env : Env) (f : Str × NameKind → List (Str × Addr) → Sem (ForInStep (List (Str × Addr))))
    (hf : ∀ n k c, f (n, k) c = if k == .free then (do let a ← cellOf env n; pure (.yield ((n, a) :: c))) else pure (.yield c)) :
    ∀ (names : List (Str × NameKind)) (acc : List (Str × Addr)), (∀ y ∈ names, y.2 = .free → ∃ c, env.cells.lookup y.1 = some c) → forIn names acc f = pure (cloFrom env.cells names acc)
  | [], acc, _ => by rw [List.forIn_nil]; rfl
  | (n, k) :: r, acc, h => by
    rw [List.forIn_cons, hf]
    have ih := fun acc => closure_loop env f hf r acc fun y hy => h y (List.mem_cons_of_mem _ hy)
    unfold cloFrom
    by_cases hk : (k == NameKind.free) = true
    · rw [if_pos hk, if_pos hk]
      obtain ⟨c, hc⟩ := h (n, k) List.mem_cons_self (by simpa using hk)
      have e : cellOf env n = pure c := by unfold cellOf; rw [hc]
      rw [e]
      have e2 : (env.cells.lookup n).getD 0 = c := by rw [hc]; rfl
      rw [e2]
      exact ih _
    · rw [if_neg hk, if_neg hk]
      exact ih _
theorem closure_ok {scope : Scope} {env : Env} (h : ∀ y ∈ scope.names, y.2 = .free → ∃ c, env.cells.lookup y.1 = some c) : closureFor scope env = pure (cloFrom env.cells scope.names []) := by
  simp only [closureFor]
  rw [closure_loop env _ (fun n k c => rfl) scope.names [] h]
  rfl

theorem mem_lookup {α : Type} : ∀ {l : List (Str × α)} {n : Str} {c : α}, (n, c) ∈ l → ∃ c', l.lookup n = some c'
  | (k, v) :: r, n, c, h => by
    rw [List.lookup_cons]
    cases hb : n == k with
    | true => exact ⟨_, rfl⟩
    | false =>
      rcases List.mem_cons.mp h with e | h
      · cases e; simp at hb
      · exact mem_lookup h

theorem cloFrom_mem {cells : List (Str × Addr)} : ∀ {names : List (Str × NameKind)} {acc : List (Str × Addr)} {n : Str} {c : Addr}, (n, c) ∈ cloFrom cells names acc → (n, c) ∈ acc ∨ ((n, .free) ∈ names ∧ c = (cells.lookup n).getD 0)
  | [], _, _, _, h => .inl h
  | (m, k) :: r, acc, n, c, h => by
    unfold cloFrom at h
    split at h
    · rename_i hk
      have hk : k = .free := by simpa using hk
      rcases cloFrom_mem h with h | ⟨h1, h2⟩
      · rcases List.mem_cons.mp h with e | h
        · cases e; exact .inr ⟨hk ▸ List.mem_cons_self, rfl⟩
        · exact .inl h
      · exact .inr ⟨List.mem_cons_of_mem _ h1, h2⟩
    · rcases cloFrom_mem h with h | ⟨h1, h2⟩
      · exact .inl h
      · exact .inr ⟨List.mem_cons_of_mem _ h1, h2⟩
theorem cloFrom_acc {cells : List (Str × Addr)} : ∀ {names : List (Str × NameKind)} {acc : List (Str × Addr)} {p : Str × Addr}, p ∈ acc → p ∈ cloFrom cells names acc
  | [], _, _, h => h
  | (m, k) :: r, acc, p, h => by
    unfold cloFrom
    split
    · exact cloFrom_acc (List.mem_cons_of_mem _ h)
    · exact cloFrom_acc h
theorem cloFrom_has {cells : List (Str × Addr)} : ∀ {names : List (Str × NameKind)} {acc : List (Str × Addr)} {n : Str}, (n, .free) ∈ names → (n, (cells.lookup n).getD 0) ∈ cloFrom cells names acc
  | (m, k) :: r, acc, n, h => by
    unfold cloFrom
    rcases List.mem_cons.mp h with e | h
    · cases e
      exact cloFrom_acc List.mem_cons_self
    · split
      · exact cloFrom_has h
      · exact cloFrom_has h

theorem cells_mem : ∀ {names : List (Str × NameKind)} {h : Heap} {acc : List (Str × Addr)} {x : Str} {c : Addr}, (x, c) ∈ cellsFrom h.objs.size names acc →
    (x, c) ∈ acc ∨ ((x, .cell) ∈ names ∧ h.objs.size ≤ c ∧ CellAt (pushCells h names) c none)
  | [], _, _, _, _, h => .inl h
  | (n, k) :: r, h, acc, x, c, hm => by
    unfold cellsFrom at hm
    unfold pushCells
    split at hm
    · rename_i hk
      rw [if_pos hk]
      have hk : k = .cell := by simpa using hk
      rw [← Heap.size_push h { cls := .type "cell", data := .cell none }] at hm
      rcases cells_mem hm with hm | ⟨h1, h2, h3⟩
      · rcases List.mem_cons.mp hm with e | hm
        · cases e
          exact .inr ⟨hk ▸ List.mem_cons_self, Nat.le_refl _, _, pushCells_keeps r _ _ _ (Heap.get?_push_size _ rfl), rfl⟩
        · exact .inl hm
      · rw [Heap.size_push] at h2
        exact .inr ⟨List.mem_cons_of_mem _ h1, Nat.le_of_succ_le h2, h3⟩
    · rename_i hk
      rw [if_neg hk]
      rcases cells_mem hm with hm | ⟨h1, h2, h3⟩
      · exact .inl hm
      · exact .inr ⟨List.mem_cons_of_mem _ h1, h2, h3⟩
theorem cells_acc : ∀ {names : List (Str × NameKind)} {n : Nat} {acc : List (Str × Addr)} {p : Str × Addr}, p ∈ acc → p ∈ cellsFrom n names acc
  | [], _, _, _, h => h
  | (m, k) :: r, n, acc, p, h => by
    unfold cellsFrom
    split
    · exact cells_acc (List.mem_cons_of_mem _ h)
    · exact cells_acc h
theorem cells_has : ∀ {names : List (Str × NameKind)} {n : Nat} {acc : List (Str × Addr)} {x : Str}, (x, .cell) ∈ names → ∃ c, (x, c) ∈ cellsFrom n names acc
  | (m, k) :: r, n, acc, x, h => by
    unfold cellsFrom
    rcases List.mem_cons.mp h with e | h
    · cases e
      exact ⟨n, cells_acc List.mem_cons_self⟩
    · split
      · exact cells_has h
      · exact cells_has h
theorem cells_inj : ∀ {names : List (Str × NameKind)} {h : Heap} {acc : List (Str × Addr)} {x y : Str} {c : Addr}, (∀ p ∈ acc, p.2 < h.objs.size) → (∀ x y c, (x, c) ∈ acc → (y, c) ∈ acc → x = y) →
    (x, c) ∈ cellsFrom h.objs.size names acc → (y, c) ∈ cellsFrom h.objs.size names acc → x = y
  | [], _, _, _, _, _, _, hi, h1, h2 => hi _ _ _ h1 h2
  | (n, k) :: r, h, acc, x, y, c, hl, hi, h1, h2 => by
    unfold cellsFrom at h1 h2
    split at h1
    · rename_i hk
      rw [if_pos hk] at h2
      rw [← Heap.size_push h { cls := .type "cell", data := .cell none }] at h1 h2
      refine cells_inj (h := h.push _) (fun p hp => ?_) (fun x y c a b => ?_) h1 h2
      · rw [Heap.size_push]
        rcases List.mem_cons.mp hp with rfl | hp
        · exact Nat.lt_succ_self _
        · exact Nat.lt_succ_of_lt (hl p hp)
      · rcases List.mem_cons.mp a with e | a <;> rcases List.mem_cons.mp b with e' | b
        · cases e; cases e'; rfl
        · cases e; exact absurd (hl _ b) (Nat.lt_irrefl _)
        · cases e'; exact absurd (hl _ a) (Nat.lt_irrefl _)
        · exact hi _ _ _ a b
    · rename_i hk
      rw [if_neg hk] at h2
      exact cells_inj hl hi h1 h2

theorem newEnv_comp {M : Model} {A : Around} {E : Value → Shared → Prop} {s : Shared} {scope : Scope} {globals : Addr} {closure : List (Str × Addr)} {qual : Str} {func : Option Addr} {code : Value} {around : Env} {builtins : Addr} {Q : Env → Shared → Prop}
    (h : Q (newEnv scope s.heap.objs.size globals (cellsFrom (s.heap.objs.size + 1) scope.names closure) qual func code (some around) builtins)
      { s with heap := pushCells (s.heap.push { cls := .type "dict", data := .dict #[] }) scope.names }) :
    wpAny M A (newFunctionEnv scope globals closure [] qual func code (some around) builtins) Q E s := by
  simp only [newFunctionEnv, Option.isSome_some, if_true]
  refine wpAny_bind (wpAny_alloc ?_)
  refine wpAny_bind (wpAny_layCells _ (fun n k c => rfl) scope.names closure _ _ ?_)
  rw [show ({ s with heap := s.heap.push { cls := .type "dict", data := .dict #[] } } : Shared).heap.objs.size = s.heap.objs.size + 1 from Heap.size_push ..]
  rw [List.forIn_nil]
  exact wpAny_bind (wpAny_pure (wpAny_pure h))

/-- every name of the written scope, in the scope that runs -/
theorem lookup_relS {sc : Scope} : ∀ {names : List (Str × NameKind)} {x : Str} {k : NameKind},
    (names.map fun (n, k) => if (k == NameKind.free && sc.kind == .function && sc.names.lookup n == some .cell) then (n, NameKind.cell) else (n, k)).lookup x = some k →
    ∃ k', names.lookup x = some k' ∧ (k = k' ∨ (k' = .free ∧ k = .cell))
  | [], _, _, h => by simp at h
  | (n, k₀) :: r, x, k, h => by
    have ih := @lookup_relS sc r x k
    have h' : List.lookup x ((if (k₀ == NameKind.free && sc.kind == .function && sc.names.lookup n == some .cell) = true then (n, NameKind.cell) else (n, k₀)) :: (r.map _)) = some k := h
    cases hx : x == n with
    | true =>
      simp only [List.lookup_cons, hx]
      by_cases hc : (k₀ == NameKind.free && sc.kind == .function && sc.names.lookup n == some .cell) = true
      · rw [if_pos hc] at h'
        simp only [List.lookup_cons, hx] at h'
        cases h'
        simp only [Bool.and_eq_true, beq_iff_eq] at hc
        exact ⟨k₀, rfl, .inr ⟨hc.1.1, rfl⟩⟩
      · rw [if_neg hc] at h'
        simp only [List.lookup_cons, hx] at h'
        cases h'
        exact ⟨_, rfl, .inl rfl⟩
    | false =>
      simp only [List.lookup_cons, hx]
      by_cases hc : (k₀ == NameKind.free && sc.kind == .function && sc.names.lookup n == some .cell) = true
      · rw [if_pos hc] at h'
        simp only [List.lookup_cons, hx] at h'
        exact ih h'
      · rw [if_neg hc] at h'
        simp only [List.lookup_cons, hx] at h'
        exact ih h'
/-- the names of a comprehension's block: its own (with their places in N), or captured -/
structure BlkOk (N : List Str) (sc scope : Scope) (own : List (Str × Nat)) : Prop where
  kind : scope.kind = .function
  uniq : ∀ y ∈ scope.names, scope.names.lookup y.1 = some y.2
  ix : ∀ p ∈ own, N[p.2]? = some p.1
  free : ∀ y ∈ scope.names, y.2 = .free → sc.names.lookup y.1 = some .cell ∨ sc.names.lookup y.1 = some .free
  own : ∀ y ∈ scope.names, y.2 = .local ∨ y.2 = .cell → y.1 ∈ own.map (·.1) ∨ y.1 ∉ N
/-- the slots of the block's own names forgotten -/
def wipe (σ : St) : List Nat → St
  | [] => σ
  | v :: vs => (wipe σ vs).set v none
theorem wipe_length (σ : St) : ∀ vs : List Nat, (wipe σ vs).length = σ.length
  | [] => rfl
  | v :: vs => by unfold wipe; rw [List.length_set, wipe_length σ vs]
theorem wipe_some {σ : St} {i : Nat} {x : V} : ∀ {vs : List Nat}, (wipe σ vs)[i]? = some (some x) → σ[i]? = some (some x) ∧ i ∉ vs
  | [], h => ⟨h, by simp⟩
  | v :: vs, h => by
    unfold wipe at h
    by_cases hi : v = i
    · subst hi
      by_cases hv : v < (wipe σ vs).length
      · rw [List.getElem?_set_self hv] at h; cases h
      · rw [List.getElem?_eq_none (by simpa using hv)] at h; cases h
    · rw [List.getElem?_set_ne hi] at h
      obtain ⟨h1, h2⟩ := wipe_some h
      exact ⟨h1, by simp only [List.mem_cons, not_or]; exact ⟨fun e => hi e.symm, h2⟩⟩

/-- the context of a block that starts at s, its iterator's objects at fp -/
abbrev Cx.blk (X : Cx) (s : Shared) (H : Hp) (scope : Scope) (cenv : Env) (fp : List Addr) : Cx := { X with s_0 := s, H_0 := H, env := cenv, outer := X.stack, ex := fp, fn := fun x => scope.names.lookup x == some .cell, pn := [], xe := fun _ _ => False }
section
variable {X : Cx} {pins : List (Addr × Obj)} {σ : St} {H : Hp} {s : Shared}
theorem block_start {scope : Scope} {own : List (Str × Nat)} {fp : List Addr} (I : Inv X pins σ H s) (ok : BlkOk X.N X.env.scope scope own) (hN : X.N.Nodup) (hfp : ∀ b ∈ fp, FpOk X pins H b ∧ b < s.heap.objs.size) :
    Inv (X.blk s H scope (compEnvC scope (cellsFrom (s.heap.objs.size + 1) scope.names (cloFrom X.env.cells scope.names [])) s.heap.objs.size X.env) fp) [] (wipe σ (own.map (·.2))) H { s with heap := pushCells (s.heap.push { cls := .type "dict", data := .dict #[] }) scope.names } := by
  have hfree : ∀ y ∈ scope.names, y.2 = .free → ∃ c, X.env.cells.lookup y.1 = some c := fun y hy e => by
    rcases ok.free y hy e with k | k
    · exact I.ok.has _ (.inl k)
    · exact I.ok.has _ (.inr k)
  generalize hcenv : compEnvC scope (cellsFrom (s.heap.objs.size + 1) scope.names (cloFrom X.env.cells scope.names [])) s.heap.objs.size X.env = cenv
  have kp : ∀ b o, s.heap.get? b = some o → (pushCells (s.heap.push { cls := .type "dict", data := .dict #[] }) scope.names).get? b = some o := fun b o e => pushCells_keeps _ _ _ _ (Heap.get?_push_of_some _ e)
  have hL : cenv.locals = s.heap.objs.size := by rw [← hcenv]; rfl
  have hcl : cenv.cells = cellsFrom (s.heap.objs.size + 1) scope.names (cloFrom X.env.cells scope.names []) := by rw [← hcenv]; rfl
  have hsc : cenv.scope = relS scope X.env.scope := by rw [← hcenv]; rfl
  rw [← Heap.size_push s.heap { cls := .type "dict", data := .dict #[] }] at hcl
  have cm : ∀ {y c}, (y, c) ∈ cloFrom X.env.cells scope.names [] → X.env.cells.lookup y = some c ∧ c < s.heap.objs.size := fun {y c} hm => by
    rcases cloFrom_mem hm with hm | ⟨h1, rfl⟩
    · cases hm
    · obtain ⟨c, hc⟩ := hfree _ h1 rfl
      rw [hc]
      obtain ⟨w, z⟩ := I.cell _ _ hc
      exact ⟨rfl, z.lt⟩
  have mem : ∀ {y c}, cenv.cells.lookup y = some c → (X.env.cells.lookup y = some c ∧ c < s.heap.objs.size) ∨ (s.heap.objs.size + 1 ≤ c ∧ CellAt (pushCells (s.heap.push { cls := .type "dict", data := .dict #[] }) scope.names) c none) := fun {y c} e => by
    rw [hcl] at e
    rcases cells_mem (PySem.mem_of_lookup e) with hm | ⟨_, h2, h3⟩
    · exact .inl (cm hm)
    · rw [Heap.size_push] at h2; exact .inr ⟨h2, h3⟩
  have look : ∀ {y}, scope.names.lookup y = some .free → ∃ c, cenv.cells.lookup y = some c ∧ X.env.cells.lookup y = some c := fun {y} hl => by
    have hy : (y, NameKind.free) ∈ scope.names := PySem.mem_of_lookup hl
    obtain ⟨c', e'⟩ := mem_lookup (cells_acc (names := scope.names) (n := (s.heap.push { cls := .type "dict", data := .dict #[] }).objs.size) (cloFrom_has (cells := X.env.cells) (acc := []) hy))
    rw [← hcl] at e'
    refine ⟨c', e', ?_⟩
    rw [hcl] at e'
    rcases cells_mem (PySem.mem_of_lookup e') with hm | ⟨h1, _, _⟩
    · exact (cm hm).1
    · have := ok.uniq _ h1
      rw [hl] at this; cases this
  have okB : (X.blk s H scope cenv fp).Ok := by
    refine ⟨I.ok.mod, by show cenv.scope.kind = _; rw [hsc]; exact ok.kind, by show cenv.globals = _; rw [← hcenv]; exact I.ok.glob, by show cenv.builtins = _; rw [← hcenv]; exact I.ok.blt, by show s.heap.objs.size ≤ cenv.locals; rw [hL]; exact Nat.le_refl _,
      fun y z c e1 e2 => ?_, fun y hy => ?_, fun y c z e => ?_, I.ok.hd, I.ok.frames, .inl rfl, fun b hb => ⟨?_, fun y c e z => ?_⟩, I.bs, Nat.le_trans I.ok.bsz I.sz, fun b o e hb => ?_, fun b hb z => ?_, I.stack, I.stkFree⟩
    · have e1 : cenv.cells.lookup y = some c := e1
      have e2 : cenv.cells.lookup z = some c := e2
      rw [hcl] at e1 e2
      refine cells_inj (fun p hp => ?_) (fun y z c a b => I.ok.inj y z c (cm a).1 (cm b).1) (PySem.mem_of_lookup e1) (PySem.mem_of_lookup e2)
      rw [Heap.size_push]
      exact Nat.lt_succ_of_lt (cm (y := p.1) (c := p.2) hp).2
    · show ∃ c, cenv.cells.lookup y = some c
      have key : ∀ k, cenv.kindOf y = some k → (k = .cell ∨ k = .free) → ∃ c, cenv.cells.lookup y = some c := fun k hk hk' => by
        unfold Env.kindOf at hk
        rw [hsc] at hk
        obtain ⟨k', e, r⟩ := lookup_relS hk
        have : k' = .cell ∨ k' = .free := by
          rcases r with rfl | ⟨rfl, _⟩
          · exact hk'
          · exact .inr rfl
        rcases this with rfl | rfl
        · obtain ⟨c, hm⟩ := cells_has (n := (s.heap.push { cls := .type "dict", data := .dict #[] }).objs.size) (acc := cloFrom X.env.cells scope.names []) (PySem.mem_of_lookup e)
          obtain ⟨c', e'⟩ := mem_lookup hm
          exact ⟨c', by rw [hcl]; exact e'⟩
        · obtain ⟨c, h1, _⟩ := look e
          exact ⟨c, h1⟩
      rcases hy with hy | hy
      · exact key _ hy (.inl rfl)
      · exact key _ hy (.inr rfl)
    · have z : (scope.names.lookup y == some NameKind.cell) = true := z
      have z : scope.names.lookup y = some .cell := by simpa using z
      have e : cenv.cells.lookup y = some c := e
      rw [hcl] at e
      rcases cells_mem (PySem.mem_of_lookup e) with hm | ⟨_, h2, _⟩
      · rcases cloFrom_mem hm with hm | ⟨h1, _⟩
        · cases hm
        · have q := ok.uniq _ h1
          rw [z] at q; cases q
      · rw [Heap.size_push] at h2
        exact Nat.le_of_succ_le h2
    · show b ≠ cenv.locals
      rw [hL]; exact Nat.ne_of_lt (hfp b hb).2
    · have e : cenv.cells.lookup y = some c := e
      rcases mem e with ⟨h1, _⟩ | ⟨h1, _⟩
      · exact (hfp b hb).1.2.2.2.2.1 y c h1 z
      · have h2 : s.heap.objs.size + 1 ≤ b := by rw [← z]; exact h1
        exact absurd (Nat.lt_of_lt_of_le (hfp b hb).2 (Nat.le_of_succ_le h2)) (Nat.lt_irrefl _)
    · rcases (hfp b hb).1.2.2.2.1 with z | z
      · exact I.ok.noex b o e z
      · exact absurd (Nat.lt_of_lt_of_le (Heap.lt_size e) (Nat.le_trans I.ok.bsz z)) (Nat.lt_irrefl _)
    · rcases List.mem_cons.mp (I.stkSub b z) with z | z
      · exact (hfp b hb).1.2.1 z
      · exact (hfp b hb).1.2.2.1 z
  refine ⟨okB, rfl, I.bare, Un.kept kp, ⟨fun _ => none, ?_, fun i y av e1 e2 e3 => ?_⟩, fun y c e => ?_, ?_, fun y c e => ?_, fun p hp => ?_, I.hok.kept kp, by rw [wipe_length]; exact I.len⟩
  · show Heap.Ns _ cenv.locals _
    rw [hL]
    exact Heap.Ns.keeps (Heap.Ns.new ..) fun b o e => pushCells_keeps _ _ _ _ e
  · obtain ⟨e2, hne⟩ := wipe_some e2
    have hfr : scope.names.lookup y = some .free ∧ (cenv.kindOf y = some .cell ∨ cenv.kindOf y = some .free) := by
      have key : ∀ k, cenv.scope.names.lookup y = some k → k = .local ∨ k = .cell ∨ k = .free → scope.names.lookup y = some .free ∧ (cenv.kindOf y = some .cell ∨ cenv.kindOf y = some .free) := fun k hk hk' => by
        have hk0 := hk
        rw [hsc] at hk
        obtain ⟨k', e, r⟩ := lookup_relS hk
        have no : ¬ (k' = .local ∨ k' = .cell) := fun hh => by
          rcases ok.own _ (PySem.mem_of_lookup e) hh with e' | e'
          · obtain ⟨p, hp, hpy⟩ := List.mem_map.mp e'
            have e3 := ok.ix p hp
            have : p.1 = y := hpy
            rw [this] at e3
            exact hne (List.mem_map.mpr ⟨p, hp, nodup_ix hN e3 e1⟩)
          · exact e' (List.mem_of_getElem? e1)
        rcases r with rfl | ⟨rfl, rfl⟩
        · rcases hk' with rfl | rfl | rfl
          · exact absurd (.inl rfl) no
          · exact absurd (.inr rfl) no
          · exact ⟨e, .inr hk0⟩
        · exact ⟨e, .inl hk0⟩
      have e3 : Vis cenv.scope y := e3
      rcases e3 with e3 | e3 | e3
      · exact key _ e3 (.inl rfl)
      · exact key _ e3 (.inr (.inl rfl))
      · exact key _ e3 (.inr (.inr rfl))
    obtain ⟨m, hn, hl⟩ := I.loc
    have hvis : Vis X.env.scope y := (ok.free _ (PySem.mem_of_lookup hfr.1) rfl).elim (fun k => .inr (.inl k)) (fun k => .inr (.inr k))
    obtain ⟨w, r, q⟩ := hl i y av e1 e2 hvis
    refine ⟨w, r, .inr ⟨hfr.2, ?_⟩⟩
    obtain ⟨c, h1, h2⟩ := look hfr.1
    rcases q with ⟨k, _⟩ | ⟨_, c', e', z⟩
    · have k : X.env.scope.names.lookup y = some .local := k
      rcases ok.free _ (PySem.mem_of_lookup hfr.1) rfl with k' | k' <;> rw [show X.env.scope.names.lookup y = _ from k'] at k <;> cases k
    · rw [h2] at e'; cases e'
      exact ⟨c, h1, z.keeps kp⟩
  · have e : cenv.cells.lookup y = some c := e
    rcases mem e with ⟨h1, _⟩ | ⟨_, z⟩
    · obtain ⟨w, z⟩ := I.cell y c h1
      exact ⟨w, z.keeps kp⟩
    · exact ⟨_, z⟩
  · show H cenv.locals = none
    rw [hL]; exact I.hok.fresh (Nat.le_refl _)
  · have e : cenv.cells.lookup y = some c := e
    rcases mem e with ⟨h1, _⟩ | ⟨h1, _⟩
    · exact I.freeC y c h1
    · exact I.hok.fresh (Nat.le_of_succ_le h1)
  · exact absurd (show p ∈ ([] : List (Addr × Obj)) ++ [] from hp) (by simp)

/-- an item appended to a tracked list -/
theorem app_ok {E : Value → Shared → Prop} {D : Addr} {xs : List V} {y : V} {v : Value} {Q : Value → Shared → Prop} (I : Inv X pins σ H s) (hD : H D = some (.lst xs)) (hz : xs.length < sizeLine) (r : RelV y v)
    (h : ∀ s', Inv X pins σ (upd H D (.lst (xs ++ [y]))) s' → Q .none s') : wpAny (model X.prog X.w) X.A (call (.builtin "list.append") [.ref D, v]) Q E s := by
  obtain ⟨hz', its, n, ri, e⟩ := I.hok D _ hD
  have hl := ri.length
  refine append_at (hsz := by rw [List.size_toArray]; omega) e fun h' sb ho' => ?_
  refine h { s with heap := h' } (I.write (t' := s.toks) (by rw [hD]; trivial) (.inl rfl) (fun b u hb q => (sb.2 b hb).trans q) ⟨_, ho'⟩ ⟨by rw [List.length_append]; exact hz, its ++ [v], n + 1, ri.append (.cons r .nil), ?_⟩)
  rw [ho']
  simp

/-- a clause's tests -/
def PTs (X : Cx) (ifs : List Expr) (t : TT) : Prop :=
  ∀ (pins : List (Addr × Obj)) (s : Shared) (σ : St) (H : Hp) (Q : Bool → Hp → Prop), Inv X pins σ H s → t σ H Q →
    wpAny (model X.prog X.w) X.A (forIn ifs true fun c r => if r = true then do let ok ← isTrue c X.env (eval c X.env); pure (ForInStep.yield ok) else pure (ForInStep.yield r)) (TP X pins σ Q) X.xe s
def tYes : TT := fun _ H Q => Q true H
theorem pts_nil : PTs X [] tYes := fun _ _ _ H _ I h => wpAny_tests_nil ⟨H, I, h⟩
end

theorem thnF {α : Type} {t : Sem α} {Q Q' : α → Shared → Prop} {M : Model} {A : Around} {E : Value → Shared → Prop} {s : Shared} (h : wpAny M A t Q (fun _ _ => False) s) (hQ : ∀ a s, Q a s → Q' a s) : wpAny M A t Q' E s := wpAny_mono h hQ fun _ _ z => False.elim z

/-- the loop of a list comprehension's block, the target of any form (codeAny_compLoop_tests asks a target that no tuple goes to; statement and proof follow it, PyProof/CompMap.lean:41-61, with the step letOwnedTupleGo kept) -/
theorem compLoop_any {prog : Program} {w : World} {A : Around} {R : Result → Shared → Prop} {s : Shared} {elt target iter : Expr} {ifs : List Expr} {scope : Scope} {pos : Pos} {it acc : Value} {env : Env} (I : Nat → Shared → Prop)
    (turn : ∀ n s, I n s → wpAny (model prog w) A (pyNext it) (fun r s₁ => match r with
      | none => R (.ok .next) s₁
      | some v => wpAny (model prog w) A (letOwnedTupleGo target it v) (fun _ s₁' => wpAny (model prog w) A (assign target env v) (fun _ s₂ =>
          wpAny (model prog w) A (forIn ifs true fun c r => if r = true then do let ok ← isTrue c env (eval c env); pure (ForInStep.yield ok) else pure (ForInStep.yield r)) (fun ok s₃ =>
            if ok = true then wpAny (model prog w) A (eval elt env) (fun x s₄ =>
              wpAny (model prog w) A (call (.builtin "list.append") [acc, x]) (fun _ s₅ => ∃ m, m < n ∧ I m s₅) (notedBy (model prog w) A env fun e s' => R (.error e) s') s₄) (notedBy (model prog w) A env fun e s' => R (.error e) s') s₃
            else ∃ m, m < n ∧ I m s₃) (notedBy (model prog w) A env fun e s' => R (.error e) s') s₂) (notedBy (model prog w) A env fun e s' => R (.error e) s') s₁') (notedBy (model prog w) A env fun e s' => R (.error e) s') s₁) (notedBy (model prog w) A env fun e s' => R (.error e) s') s)
    (n : Nat) (h : I n s) :
    codeAny (model prog w) A (.compLoop (.ListComp elt [⟨target, iter, ifs, 0⟩] scope pos) 0 it acc env) R s := by
  refine codeAny_loop rfl I (fun n s hI => ?_) n h
  show wpAny _ A ((compTurn (.ListComp elt [⟨target, iter, ifs, 0⟩] scope pos) 0 it acc env).onRaise (fun x => do noteFrame x env; theTreesLotGoes x)) _ _ s
  refine wpAny_noted ?_
  rw [compTurn_list]
  refine wpAny_bind (wpAny_standAt (wpAny_bind (wpAny_mono (turn n s hI) (fun r s₁ h₁ => ?_) fun _ _ h' => h')))
  cases r with
  | none => exact wpAny_pure h₁
  | some v =>
    refine wpAny_bind (wpAny_mono h₁ (fun _ s₁' h₁' => ?_) fun _ _ h' => h')
    refine wpAny_bind (wpAny_mono h₁' (fun _ s₂ h₂ => wpAny_bind (wpAny_mono h₂ (fun ok s₃ h₃ => ?_) fun _ _ h' => h')) fun _ _ h' => h')
    cases ok with
    | false => exact wpAny_pure ⟨rfl, h₃⟩
    | true =>
      exact wpAny_bind (wpAny_bind (wpAny_mono h₃ (fun x s₄ h₄ => wpAny_bind (wpAny_mono h₄ (fun _ s₅ h₅ => wpAny_pure (wpAny_pure ⟨rfl, h₅⟩)) fun _ _ h' => h')) fun _ _ h' => h'))

section
variable {X : Cx}
/-- [elt for target in iter if ..]: D the new list; W by the turn and a measure, Nx what a turn is to reach -/
def tLc (wi : TI) (g : TG) (tt : TT) (te : TE) (vs : List Nat) : TE := fun σ H Q => wi σ H fun J H1 => ∀ D, H1 D = none → ∃ W : Nat → Nat → Hp → Prop, (∃ m, W 0 m (upd H1 D (.lst []))) ∧ ∀ i m H, W i m H →
  (J.stop i H ∧ Q (.ref D) H) ∨ (J.go i H ∧ ∃ Nx : Hp → Prop, (∀ H', Nx H' → ∃ m', m' < m ∧ W (i + 1) m' H') ∧ ∀ x H', J.yld i H x H' → g x (wipe σ vs) H' fun σ2 H2 => wipe σ2 vs = wipe σ vs ∧ tt σ2 H2 fun b H3 =>
    if b = true then te σ2 H3 fun y H4 => ∃ acc, H4 D = some (.lst acc) ∧ acc.length < sizeLine ∧ Nx (upd H4 D (.lst (acc ++ [y]))) else Nx H3)
theorem lc_core {pins : List (Addr × Obj)} {s : Shared} {σ : St} {H : Hp} {Q : VK} {elt tg iter : Expr} {ifs : List Expr} {scope : Scope} {own : List (Str × Nat)} {pos pos' : Pos} {wi : TI} {g : TG} {tt : TT} {te : TE} {use : Option (Value → Sem Unit)} {Qf : Value → Shared → Prop}
    (hc : X.calm = true) (hN : X.N.Nodup) (I : Inv X pins σ H s) (hi : PI X tg iter wi) (ok : BlkOk X.N X.env.scope scope own)
    (hg : ∀ (s : Shared) (H : Hp) (C : Addr) (cl : List (Str × Addr)) (fp : List Addr), PG (X.blk s H scope (compEnvC scope cl C X.env) fp) tg g) (ht : ∀ (s : Shared) (H : Hp) (C : Addr) (cl : List (Str × Addr)) (fp : List Addr), PTs (X.blk s H scope (compEnvC scope cl C X.env) fp) ifs tt)
    (he : ∀ (s : Shared) (H : Hp) (C : Addr) (cl : List (Str × Addr)) (fp : List Addr), PE (X.blk s H scope (compEnvC scope cl C X.env) fp) elt te) (hs : ∀ x, foldedSetIterable iter X.env x = pure x)
    (h : tLc wi g tt te (own.map (·.2)) σ H Q)
    (hRR : ∀ D C s' m H', Inv X pins σ H' s' → Q (.ref D) H' → s'.heap.Ns C m → FpOk X pins H' C → compPost (model X.prog X.w) X.A X.xe use Qf (.ref D) C (.ok .next) s') :
    wpAny (model X.prog X.w) X.A (comprehension (.ListComp elt [⟨tg, iter, ifs, 0⟩] scope pos) scope X.env pos' (newList []) false (eval iter X.env) use) Qf X.xe s := by
  have hfree : ∀ y ∈ scope.names, y.2 = .free → ∃ c, X.env.cells.lookup y.1 = some c := fun y hy e => by
    rcases ok.free y hy e with k | k
    · exact I.ok.has _ (.inl k)
    · exact I.ok.has _ (.inr k)
  refine wpAny_comprehension_free (use := use) rfl hs (closure_ok hfree) ok.kind (fun y hy e => by rw [ok.uniq y hy, e])
    (thn (hi pins s σ H _ I h) fun xv s1 hx => thn hx fun itv s2 h2 => ?_)
  obtain ⟨it, fp, tn, J, H2, e, I2, T, st2, f2, q⟩ := h2
  subst e
  refine wpAny_newObj_type (newEnv_comp ?_) (by show 0 ≤ sizeLine; decide)
  generalize hD : s2.heap.objs.size = D
  have hDn : H2 D = none := I2.hok.fresh (Nat.le_of_eq hD)
  obtain ⟨W, ⟨m0, w0⟩, turn⟩ := q D hDn
  -- the new list
  generalize hs3 : ({ s2 with heap := s2.heap.push { cls := .type "list", data := .seq ([] : List Value).toArray } } : Shared) = s3
  have I3 : Inv X pins σ (upd H2 D (.lst [])) s3 := by
    rw [← hs3]
    refine I2.laid (t' := s2.toks) (fun b o e => Heap.get?_push_of_some _ e) (Nat.le_of_eq hD) ⟨Nat.zero_le _, [], 0, .nil, ?_⟩
    rw [← hD]
    exact Heap.get?_push_size _ rfl
  have h3 : s3.heap = s2.heap.push { cls := .type "list", data := .seq ([] : List Value).toArray } := by rw [← hs3]
  have sz : ∀ b ∈ fp, b < s2.heap.objs.size := fun b hb => by
    obtain ⟨o, e, _⟩ := T.obj _ _ st2 b hb
    exact Heap.lt_size e
  have f3 : ∀ b ∈ fp, FpOk X pins (upd H2 D (.lst [])) b ∧ b < s3.heap.objs.size := fun b hb => by
    have hlt := sz b hb
    refine ⟨⟨?_, (f2 b hb).2⟩, by rw [h3, Heap.size_push]; exact Nat.lt_succ_of_lt hlt⟩
    rw [upd_ne (by rw [← hD]; exact Nat.ne_of_lt hlt)]
    exact (f2 b hb).1
  have st3 : tn 0 s3.heap := T.keep _ _ _ st2 fun b _ o e => by rw [h3]; exact Heap.get?_push_of_some _ e
  have I4 := block_start I3 ok hN f3
  have pg := hg s3 (upd H2 D (.lst [])) s3.heap.objs.size (cellsFrom (s3.heap.objs.size + 1) scope.names (cloFrom X.env.cells scope.names [])) fp
  have pt := ht s3 (upd H2 D (.lst [])) s3.heap.objs.size (cellsFrom (s3.heap.objs.size + 1) scope.names (cloFrom X.env.cells scope.names [])) fp
  have pe := he s3 (upd H2 D (.lst [])) s3.heap.objs.size (cellsFrom (s3.heap.objs.size + 1) scope.names (cloFrom X.env.cells scope.names [])) fp
  show codeAny _ _ (.compStart (.ListComp elt [⟨tg, iter, ifs, 0⟩] scope pos) 0 (.ref it) (.ref D) (compEnvC scope (cellsFrom (s3.heap.objs.size + 1) scope.names (cloFrom X.env.cells scope.names [])) s3.heap.objs.size X.env)) (compPost (model X.prog X.w) X.A X.xe use Qf (.ref D) s3.heap.objs.size) { s3 with heap := pushCells (s3.heap.push { cls := .type "dict", data := .dict #[] }) scope.names }
  have nfp : ∀ b ∈ fp, (upd H2 D (.lst [])) b = none := fun b hb => (f3 b hb).1.1
  generalize hce : compEnvC scope (cellsFrom (s3.heap.objs.size + 1) scope.names (cloFrom X.env.cells scope.names [])) s3.heap.objs.size X.env = ce at I4 pg pt pe ⊢
  have cL : ce.locals = s3.heap.objs.size := by subst hce; rfl
  generalize hH3 : upd H2 D (.lst []) = H3 at I3 I4 pg pt pe w0 nfp f3
  generalize hs4 : ({ s3 with heap := pushCells (s3.heap.push { cls := .type "dict", data := .dict #[] }) scope.names } : Shared) = s4 at I4 ⊢
  have st4 : tn 0 s4.heap := T.keep _ _ _ st3 fun b _ o e => by rw [← hs4]; exact pushCells_keeps _ _ _ _ (Heap.get?_push_of_some _ e)
  have stat : ∀ {σ' : St} {H' : Hp} {s' : Shared}, Inv (X.blk s3 H3 scope ce fp) [] σ' H' s' → (∀ b ∈ fp, H' b = none) → ∀ b ∈ fp, FpOk (X.blk s3 H3 scope ce fp) [] H' b := fun {σ' H' s'} I' hn b hb =>
    ⟨hn b hb, (I'.ok.exf b hb).1, I'.ok.exfs b hb, .inl hb, fun x c e => (I'.ok.exf b hb).2 x c e, fun p hp => absurd (show p ∈ ([] : List (Addr × Obj)) ++ [] from hp) (by simp)⟩
  have loop : codeAny (model X.prog X.w) X.A (.compLoop (.ListComp elt [⟨tg, iter, ifs, 0⟩] scope pos) 0 (.ref it) (.ref D) ce) (compPost (model X.prog X.w) X.A X.xe use Qf (.ref D) s3.heap.objs.size) s4 := by
    refine compLoop_any (fun n s' => ∃ i H', Inv (X.blk s3 H3 scope ce fp) [] (wipe σ (own.map (·.2))) H' s' ∧ tn i s'.heap ∧ (∀ b ∈ fp, H' b = none) ∧ W i n H') ?_ m0 ⟨0, H3, I4, st4, nfp, w0⟩
    rintro n s5 ⟨i, H5, I5, st5, n5, w5⟩
    rcases turn i n H5 w5 with ⟨stop, qq⟩ | ⟨go, Nx, hNx, step⟩
    · have td := T.done (X.blk s3 H3 scope ce fp) rfl rfl rfl hc i [] s5 _ H5 (fun _ _ => False) I5 (stat I5 n5) st5 stop
      refine thnF td fun r s6 ⟨hr, I6⟩ => ?_
      subst hr
      -- back in the def's context
      have I7 : Inv X pins σ H5 s6 := I3.call' (ch := fp) I6.os I6.base I6.hok I6.bare fun b hb => ⟨(f3 b hb).1.2.2.2.1, (f3 b hb).1.2.1, (f3 b hb).1.2.2.2.2.1, (f3 b hb).1.2.2.2.2.2⟩
      have nC : H5 s3.heap.objs.size = none := by
        have z : H5 ce.locals = none := I6.free
        rw [cL] at z
        exact z
      obtain ⟨m, hn, _⟩ := I6.loc
      have hn : s6.heap.Ns ce.locals m := hn
      rw [cL] at hn
      exact hRR D s3.heap.objs.size s6 m H5 I7 qq hn (I3.fpOk (Nat.le_refl _) nC)
    · have ti := T.item (X.blk s3 H3 scope ce fp) rfl rfl rfl hc i [] s5 _ H5 (fun _ _ => False) I5 (stat I5 n5) st5 go
      refine thnF ti fun r s6 ⟨u, hr, h6⟩ => ?_
      subst hr
      refine thnF h6 fun _ s7 ⟨x, H7, I7, r7, y7, st7, n7⟩ => ?_
      have I7' := I7.pinned (stat I7 n7) (T.obj _ _ st7)
      refine thnF (pg _ s7 _ H7 x u _ I7' r7 (step x H7 y7)) fun _ s8 ⟨σ8, H8, I8, hw8, q8⟩ => ?_
      refine thnF (pt _ s8 σ8 H8 _ I8 q8) fun b s9 ⟨H9, I9, q9⟩ => ?_
      -- the turn's end
      have fin : ∀ {s' : Shared} {H' : Hp}, Inv (X.blk s3 H3 scope ce fp) ([] ++ pinsAt fp s7.heap) σ8 H' s' → Nx H' → ∃ m, m < n ∧ ∃ i H', Inv (X.blk s3 H3 scope ce fp) [] (wipe σ (own.map (·.2))) H' s' ∧ tn i s'.heap ∧ (∀ b ∈ fp, H' b = none) ∧ W i m H' := fun {s' H'} I' nx => by
        obtain ⟨m', hm, w'⟩ := hNx H' nx
        have pin' : ∀ b ∈ fp, ∀ o, s7.heap.get? b = some o → s'.heap.get? b = some o ∧ H' b = none := fun b hb o e =>
          let z := I'.pin (b, o) (List.mem_append_right _ (List.mem_append_right _ (mem_pinsAt hb e)))
          ⟨z.1, z.2.1⟩
        have hl : (wipe σ (own.map (·.2))).length = σ8.length := by rw [← hw8, wipe_length]
        refine ⟨m', hm, i + 1, H', (I'.unpinned (pins := [])).weak hl (fun j v e => ?_), T.keep _ _ _ st7 fun b hb o e => (pin' b hb o e).1, fun b hb => ?_, w'⟩
        · rw [← hw8] at e
          exact (wipe_some e).1
        · obtain ⟨o, e, _⟩ := T.obj _ _ st7 b hb
          exact (pin' b hb o e).2
      cases b with
      | false =>
        simp only [Bool.false_eq_true, if_false] at q9 ⊢
        exact fin I9 q9
      | true =>
        simp only [if_true] at q9 ⊢
        refine thnF (pe _ s9 σ8 H9 _ I9 q9) fun z s10 ⟨yv, H10, I10, r10, acc, hD10, hz10, nx⟩ => ?_
        exact app_ok (X := X.blk s3 H3 scope ce fp) I10 hD10 hz10 r10 fun s11 I11 => fin I11 nx
  exact codeAny_compStart_list loop (T.self X.A 0 _ _ _ st4 loop)
/-- as a value -/
theorem pe_lc {elt tg iter : Expr} {ifs : List Expr} {scope : Scope} {own : List (Str × Nat)} {pos : Pos} {wi : TI} {g : TG} {tt : TT} {te : TE} (hc : X.calm = true) (hN : X.N.Nodup) (hi : PI X tg iter wi) (ok : BlkOk X.N X.env.scope scope own)
    (hg : ∀ (s : Shared) (H : Hp) (C : Addr) (cl : List (Str × Addr)) (fp : List Addr), PG (X.blk s H scope (compEnvC scope cl C X.env) fp) tg g) (ht : ∀ (s : Shared) (H : Hp) (C : Addr) (cl : List (Str × Addr)) (fp : List Addr), PTs (X.blk s H scope (compEnvC scope cl C X.env) fp) ifs tt)
    (he : ∀ (s : Shared) (H : Hp) (C : Addr) (cl : List (Str × Addr)) (fp : List Addr), PE (X.blk s H scope (compEnvC scope cl C X.env) fp) elt te) (hs : ∀ x, foldedSetIterable iter X.env x = pure x := by intro _; rfl) :
    PE X (.ListComp elt [⟨tg, iter, ifs, 0⟩] scope pos) (tLc wi g tt te (own.map (·.2))) := by
  intro pins s σ H Q I h
  rw [eval_ListComp]
  refine lc_core hc hN I hi ok hg ht he hs h fun D C s' m H' I' q hn f => ⟨m, hn, fun h'' sb => ?_⟩
  obtain ⟨f0, f1, f2, f3, f4, f5⟩ := f
  exact ⟨.ref D, H', I'.turned (t' := s'.toks) (fun b o hb e => (sb.2 b hb).trans e) f0 f1 f3 f4 f5, rfl, q⟩
end

/-! ### the forms one uses -/
def blkC (N : List Str) (sc scope : Scope) (own : List (Str × Nat)) : Bool :=
  (match scope.kind with | .function => true | _ => false) && (scope.names.all fun y => decide (scope.names.lookup y.1 = some y.2)) && (own.all fun p => decide (N[p.2]? = some p.1)) &&
    (scope.names.all fun y => match y.2 with
      | .free => (match sc.names.lookup y.1 with | some .cell => true | some .free => true | _ => false)
      | .local => decide (y.1 ∈ own.map (·.1)) || decide (y.1 ∉ N)
      | .cell => decide (y.1 ∈ own.map (·.1)) || decide (y.1 ∉ N)
      | _ => true)
theorem blkOk_by {N : List Str} {sc scope : Scope} {own : List (Str × Nat)} (h : blkC N sc scope own = true) : BlkOk N sc scope own := by
  unfold blkC at h
  simp only [Bool.and_eq_true, List.all_eq_true, decide_eq_true_eq] at h
  obtain ⟨⟨⟨h1, h2⟩, h3⟩, h4⟩ := h
  refine ⟨?_, h2, h3, fun y hy e => ?_, fun y hy e => ?_⟩
  · split at h1
    · assumption
    · cases h1
  · have q := h4 y hy
    simp only [e] at q
    split at q <;> first | exact .inl (by assumption) | exact .inr (by assumption) | cases q
  · have q := h4 y hy
    rcases e with e | e <;> (simp only [e, Bool.or_eq_true, decide_eq_true_eq] at q; exact q)
end L2

namespace L2
open PySem PySem.Spec PyProof.Rows

section
variable {prog : Program} {w : World} {A : Around} {R : Result → Shared → Prop} {s : Shared} {elt t0 i0 t1 i1 : Expr} {ifs0 ifs1 : List Expr} {scope : Scope} {pos : Pos} {it acc : Value} {env : Env}
end

section
variable {X : Cx}
end
end L2

namespace L2
open PySem PySem.Spec PyProof.Rows

/-! ### lists of pairs as tables -/
section
variable {κ : Type} [DecidableEq κ]
end


/-! ### a tracked dict, its keys ints and texts or tuples of these -/
section
variable {P : Program} {w : World} {H : Hp} {h : Heap} {a : Addr}
end

section
variable {X : Cx} {pins : List (Addr × Obj)} {σ : St} {H : Hp} {s : Shared} {a : Addr} {y v : V} {u r : Value} {o : Option V} {A : Around} {E : Value → Shared → Prop}

end

section
variable {X : Cx} {pins : List (Addr × Obj)} {σ : St} {H : Hp} {s : Shared} {a : Addr} {kvs : List (Key × V)} {k : Key} {u : Value} {A : Around} {E : Value → Shared → Prop}
end


/-! ### readings and rules -/
section
variable {X : Cx} {o i e value : Expr} {pos pos' tpos : Pos} {td ty tv : TE}
end


/-! ### displays -/
section
variable {X : Cx} {pos : Pos}
end

/-! ### methods -/
section
variable {X : Cx} {pins : List (Addr × Obj)} {σ : St} {H : Hp} {s : Shared} {a : Addr} {y d : V} {u r : Value} {o : Option V} {A : Around} {E : Value → Shared → Prop}
end

section
variable {X : Cx} {o e f : Expr} {apos cpos : Pos} {td ty tx : TE}
end

/-! ### dict(d): a copy -/
section
variable {X : Cx} {pins : List (Addr × Obj)} {σ : St} {H : Hp} {s : Shared} {a : Addr} {kvs : List (Key × V)} {A : Around} {E : Value → Shared → Prop}
end


section
variable {X : Cx} {pins : List (Addr × Obj)} {σ : St} {H : Hp} {s : Shared} {a : Addr} {y : V} {u : Value} {A : Around} {E : Value → Shared → Prop}
end
end L2

namespace L2
open PySem PySem.Spec PyProof.Rows

section
variable {prog : Program} {w : World} {A : Around} {E : Value → Shared → Prop}
end

section
variable {X : Cx}
end
end L2

namespace L2
open PySem PySem.Spec PyProof.Rows

section
variable {X : Cx} {pins : List (Addr × Obj)} {σ : St} {H : Hp} {s : Shared} {h' : Heap}
/-! ### locking a thing while a statement runs -/
end
section
variable {X : Cx}
/-! ### one iterator just laid -/
theorem pi_one {tg : Expr} {pins : List (Addr × Obj)} {σ : St} {H : Hp} {s : Shared} {R : It → Hp → Prop} {J : It} {tn : Nat → Heap → Prop} {tk : Nat} (I : Inv X pins σ H s) (o : Obj)
    (T : Turn X.prog X.w X.K tg J [s.heap.objs.size] s.heap.objs.size tn) (st : tn 0 (s.heap.push o)) (q : R J H) : PIE X pins σ tg R (.ref s.heap.objs.size) { s with heap := s.heap.push o, toks := tk } := by
  refine ⟨s.heap.objs.size, [s.heap.objs.size], tn, J, H, rfl, I.kept fun b ob e => Heap.get?_push_of_some _ e, T, st, fun b hb => ?_, q⟩
  have e : b = s.heap.objs.size := by simpa using hb
  subst e
  exact I.fpOk (Nat.le_refl _) (I.hok.fresh (Nat.le_refl _))
end

/-! ### range with a step -/
section
variable {X : Cx} {tg : Expr}
end
/-! ### reversed(list) -/
section
variable {X : Cx} {tg : Expr}
end

/-! ### a str -/
def Its (x : Str) : It := ⟨fun i _ => i < x.cps.size, fun i H v H' => H' = H ∧ ∃ c, x.cps[i]? = some c ∧ v = .str ⟨#[c]⟩, fun i _ => x.cps.size ≤ i⟩
theorem turn_str {P : Program} {w : World} {K : PySem.W.Frag} {tg : Expr} (it : Addr) (x : Str) (t : Tok) (ty : String) (hty : ty = "str_ascii_iterator" ∨ ty = "str_iterator") :
    Turn P w K tg (Its x) [it] it (fun i h => h.IsStrIter it ty x t i) where
  mem := by simp
  obj := fun i h st b hb => by
    have e : b = it := by simpa using hb
    subst e
    obtain ⟨o, e, c, d⟩ := st
    exact ⟨o, e, fun v z => by rw [d] at z; cases z⟩
  keep := fun i h h' st k => let ⟨o, ho, r⟩ := st; ⟨o, k it (by simp) o ho, r⟩
  item := by
    intro X hP hw hK hc i pins s σ H E I hf st hg
    subst hP hw hK
    obtain ⟨f0, f1, f2, f3, f4, f5⟩ := hf it (by simp)
    have W : Walks X.prog X.w X.A it [it] [it] x.cps.size (SignAt x) (fun i h => h.IsStrIter it ty x t i) := by
      rcases hty with e | e
      · rw [e]; exact Walks.strAscii (I.ok.hd hc) it x t
      · rw [e]; exact Walks.strWide (I.ok.hd hc) it x t
    have hno : ["enumerate", "zip", "dict_itemiterator", "dict_reverseitemiterator", "odict_iterator", "itertools.zip_longest", "itertools.pairwise"].contains ty = false := by
      rcases hty with e | e
      · rw [e]; decide
      · rw [e]; decide
    refine W.item i s _ _ hg st fun v h' tk hv st' kk => ?_
    obtain ⟨c, u, hcx, rfl⟩ := hv
    have I1 : Inv X pins σ H { s with heap := h', toks := tk } := I.turned (fun b o hb e => kk b o (by simpa using hb) e) f0 f1 f3 f4 f5
    obtain ⟨oi, e, cc, dd⟩ := id st'
    exact ⟨_, rfl, go_of (s := { s with heap := h', toks := tk }) e cc dd hno ⟨.str ⟨#[c]⟩, H, I1, ⟨u, rfl⟩, ⟨rfl, c, hcx, rfl⟩, st', fun b hb => (hf b hb).1⟩⟩
  done := by
    intro X hP hw hK hc i pins s σ H E I hf st hg
    subst hP hw hK
    obtain ⟨f0, f1, f2, f3, f4, f5⟩ := hf it (by simp)
    have hx : x.cps[i]? = none := Array.getElem?_eq_none hg
    rcases hty with e | e
    · rw [e] at st
      exact wpAny_pyNext_ascii_end (I.ok.hd hc) st hx fun h' eb => ⟨rfl, I.turned (t' := s.toks) (fun b o hb e => eb b o hb e) f0 f1 f3 f4 f5⟩
    · rw [e] at st
      exact wpAny_pyNext_wide_end (I.ok.hd hc) st hx fun h' eb => ⟨rfl, I.turned (t' := s.toks) (fun b o hb e => eb b o hb e) f0 f1 f3 f4 f5⟩
  self := fun A i s Q E st h => by
    rcases hty with e | e
    · rw [e] at st; exact wpAny_pyIter_striter_ascii st h
    · rw [e] at st; exact wpAny_pyIter_striter_wide st h
def iStr (te : TE) : TI := fun σ H R => te σ H fun v H1 => ∃ x, v = .str x ∧ R (Its x) H1
theorem pi_str {X : Cx} {tg e : Expr} {te : TE} (he : PE X e te) : PI X tg e (iStr te) := by
  intro pins s σ H R I h
  refine thn (he pins s σ H _ I h) fun v s1 ⟨y, H1, I1, r1, x, ex, q⟩ => ?_
  subst ex
  obtain ⟨t, rfl⟩ := r1
  cases ha : x.cps.all (· < 128)
  · exact wpAny_pyIter_wide ha (pi_one (tk := s1.toks) I1 _ (turn_str _ x t "str_iterator" (.inr rfl)) ⟨_, Heap.get?_push_size _ rfl, rfl, rfl⟩ q)
  · exact wpAny_pyIter_ascii ha (pi_one (tk := s1.toks) I1 _ (turn_str _ x t "str_ascii_iterator" (.inl rfl)) ⟨_, Heap.get?_push_size _ rfl, rfl, rfl⟩ q)

/-! ### a dict's keys: any dict's entries -/
section
variable {prog : Program} {w : World} {A : Around} {E : Value → Shared → Prop} {s : Shared}
end

/-! ### a locked dict -/
section
variable {X : Cx} {pins : List (Addr × Obj)} {σ : St} {H : Hp} {s : Shared} {d : Addr} {o : Obj}
end

section
variable {P : Program} {w : World} {K : PySem.W.Frag} {tg : Expr} {d : Addr} {o : Obj} {es : Array DictEntry} {ep : Nat}
end

/-! ### for k in d, d.keys(), d.values(), d.items() -/
section
variable {X : Cx} {tg e : Expr} {td : TE} {apos cpos : Pos}
end

/-! ### enumerate(list) -/
/-! ### zip(list, list) -/
end L2

section 
namespace Bits
open PySem PyProof.Rows

end Bits
end 

section 
namespace TL
open PySem PySem.Builtin PySem.Builtin.Str PySem.StrLaws

abbrev tl (x : Str) : List Nat := x.cps.toList
theorem len_tl (x : Str) : x.length = (tl x).length := by simp [tl, Str.length]
theorem ext_tl {x y : Str} (h : tl x = tl y) : x = y := Str.ext' (Array.toList_inj.mp h)
theorem tl_append (x y : Str) : tl (x ++ y) = tl x ++ tl y := by
  show (x ++ y).cps.toList = _
  rw [Str.cps_append, Array.toList_append]
/-! ### the list functions -/
/-! ### the model's split and partition are these -/
/-! ### computing spl and par -/
/-! ### digits -/
/-- the signs of a number -/
def numL (n : Nat) : List Nat := (Nat.toDigits 10 n).map Char.toNat
theorem tl_num (n : Nat) : tl (Str.ofString (toString ((n : Nat) : Int))) = numL n := PySem.W.KIN.signs_num n
theorem digitChar_nat : ∀ d : Nat, d < 10 → (Nat.digitChar d).toNat = 48 + d := by decide
theorem numL_lt {n : Nat} (h : n < 10) : numL n = [48 + n] := by
  unfold numL
  rw [Nat.toDigits_of_lt_base h]
  show [(Nat.digitChar n).toNat] = _
  rw [digitChar_nat n h]
theorem numL_step {n : Nat} (h : 10 ≤ n) : numL n = numL (n / 10) ++ [48 + n % 10] := by
  have hm : n % 10 < 10 := Nat.mod_lt n (by decide)
  have t : Nat.toDigits 10 (n / 10) ++ Nat.toDigits 10 (n % 10) = Nat.toDigits 10 (10 * (n / 10) + n % 10) := Nat.toDigits_append_toDigits (by decide) (by omega) hm
  rw [Nat.div_add_mod] at t
  show (Nat.toDigits 10 n).map Char.toNat = _
  rw [← t, List.map_append, Nat.toDigits_of_lt_base hm]
  show (Nat.toDigits 10 (n / 10)).map Char.toNat ++ [(Nat.digitChar (n % 10)).toNat] = _
  rw [digitChar_nat _ hm] <;> rfl
theorem numL_digits (n : Nat) : NumText.AllDigits (numL n) := by
  induction n using Nat.strongRecOn with
  | _ n ih =>
    by_cases h : n < 10
    · rw [numL_lt h]
      intro c hc
      rw [List.mem_singleton.mp hc]
      omega
    · rw [numL_step (by omega)]
      intro c hc
      rcases List.mem_append.mp hc with hc | hc
      · exact ih (n / 10) (by omega) c hc
      · have hm : n % 10 < 10 := Nat.mod_lt n (by decide)
        rw [List.mem_singleton.mp hc]
        omega
theorem numL_ne (n : Nat) : numL n ≠ [] := by
  by_cases h : n < 10
  · rw [numL_lt h]
    simp
  · rw [numL_step (by omega)]
    simp
theorem numL_len {n k : Nat} (hk : 0 < k) (h : n < 10 ^ k) : (numL n).length ≤ k := by
  have z := PyProof.Rows.toString_length_le (v := (n : Int)) (by omega) hk (by
    have e : ((10 : Int) ^ k) = ((10 ^ k : Nat) : Int) := by
      first
        | exact (Int.natCast_pow 10 k).symm
        | simp
    rw [e]
    first | exact Int.ofNat_lt.mpr h | omega)
  rw [len_tl, tl_num] at z
  exact z
/-! ### words: x.split() -/
end TL
end 

namespace L2
open PySem PySem.Spec PyProof.Rows

section
variable {X : Cx} {pins : List (Addr × Obj)} {σ : St} {H : Hp} {s : Shared} {Q : VK}
end

section
variable {X : Cx}

/-! ### of a text alone -/
/-! ### of a text and a text -/
end

section
variable {X : Cx} {o e : Expr} {to te : TE}
def tM1 (r : V → List V → Hp → VK → Prop) (to te : TE) : TE := fun σ H Q => to σ H fun x H1 => (∃ a, x = .str a) ∧ te σ H1 fun y H2 => r x [y] H2 Q
theorem pe_m1 {id : String} {name : Str} {apos pos : Pos} {r : V → List V → Hp → VK → Prop} (slot : Slot "str" name id) (ty : typeOf (.builtin id) = pure (.type "method_descriptor")) (rule : MtR X id r) (ho : PE X o to) (he : PE X e te)
    (hs : starEach [e] X.env = [(false, eval e X.env)] := by rfl) (hbase : attributeBase o name X.env (eval o X.env) = eval o X.env := by rfl) (hline : (apos.endLine == pos.line) = true := by rfl) :
    PE X (.Call (.Attribute o name apos) [e] [] pos) (tM1 r to te) := by
  intro pins s σ H Q I h
  refine PySem.Call_method1 hbase hs hline (thn (ho pins s σ H _ I h) fun v s1 ⟨x, H1, I1, r1, q1⟩ => ?_)
  obtain ⟨⟨a, rfl⟩, q1⟩ := q1
  obtain ⟨t, rfl⟩ := _root_.id r1
  refine ⟨"str", _, F.plainAttrs_str, slot, ty, typeIs_str _ _ _, (fun _ e => nomatch e), Calls.callWith_builtin rfl (Calls.evalArgs_plain (Calls.spliced_cons ?_))⟩
  exact thn (he pins s1 σ H1 _ I1 q1) fun u s2 ⟨y, H2, I2, r2, q2⟩ => Calls.spliced_nil (rule pins s2 σ H2 _ [y] _ [u] Q I2 r1 (.cons r2 .nil) q2)

end
end L2

namespace L2
open PySem PySem.Spec PyProof.Rows

section
variable {X : Cx}
end

/-! ### slices of a text -/
end L2

namespace Att
open PySem PySem.W PySem.Calls PyProof.Rows

/-! ### the script -/
/-! ### the attachment: holds_open's last premise (the goal 'hc' behind k_head) from a wpAny of the law's body -/
/-! ### rules over ANY heap (no ledger) from facts about the written part K: the library's own take a ledger (News) for what they write -/
section
variable {prog : Program} {w : World} {A : Around} {E : Value → Shared → Prop} {s : Shared} {K : Frag}

/-! the whole heap as the ledger: makes every rule that writes through a ledger a rule over any heap -/
end
end Att

namespace L2
open PySem PySem.Spec PyProof.Rows

end L2

namespace L2
open PySem PySem.Spec PyProof.Rows

abbrev KOf {K : PySem.W.Frag} {h : Heap} (_ : K.In h) : PySem.W.Frag := K

end L2

/- THE LAST THEOREM (shape; LID, My.* are yours):
   My.Adr: a structure of the addresses that your layer names (classes, functions); My.Txt K t: a structure (Prop) of the equations over K;
   My.txt_mk : {K} {implicit addresses ..} (e1 : nsIn K mainGlobals "law" = some (some (.ref f))) (e2 : K.lookup f = some ⟨oc, od, .func (fnOf "law" "law" params body scope dV kV doc pm an cdv ct), sl⟩) (e3 : codeIn K cdv "law" = true) .. : ∃ t, My.Txt K t

set_option maxRecDepth 100000 in
set_option maxHeartbeats 0 in
theorem PySem.Challenge.cw_LID_holds : PySem.Challenge.rw_LID.Holds := by
  w_on; o_law; k_head; (case hw => w_witness2)
  k_fill
  refine L2.walk_of (l := PySem.Challenge.rw_LID) (n := 63) (k := 40) (x := "script") (CX := fun w => ..) (sp := fun _ => My.sp_law) rfl (by decide) rfl ⟨rfl, by decide, by decide⟩ (fun w h Y => PySem.W.kIn_of Y) ?F ?S ?C
  case F =>
    intro w mg fa h KX G hmg
    have T : ∃ t, My.Txt (L2.KOf KX) t := by
      dsimp only [L2.KOf]                          -- K must stand as «<heap const> w.params» for k_is
      refine' My.txt_mk ?e1 ?e2 ?e3 ..
      (case e1 => PySem.W.k_is)                    -- in the order: a name -> its address -> its object -> its parts
      (case e2 => PySem.W.k_is)
      ..
    obtain ⟨t, T⟩ := T
    have e0 := hmg.symm.trans (PySem.W.mg_of KX G T.law)
    cases e0                                       -- fa is the law's own address
    exact ⟨_, fun s u => .of_eq rfl, fun base kb nb => My.law_fn T kb nb⟩     -- if «.of_eq rfl» comes too early: refine' ⟨_, ?b, fun base kb nb => My.law_fn T kb nb⟩; exact fun s u => .of_eq rfl
  case S => exact fun w H a ns hl hO hS => ..
  case C => exact ..
(the tactic k_is has no namespace: write k_is) -/

/-! SHORT WORDS over the layer: a def of the text, its body, what a loop and a test want. -/
namespace L2
open PySem PySem.Spec PyProof.Rows

/-! ### the text by places -/
def defArgs (s : Stmt) : Arguments := match s with
  | .FunctionDef _ a _ _ _ _ _ _ _ _ => a
  | _ => { posonlyargs := [], args := [], vararg := none, kwonlyargs := [], kw_defaults := [], kwarg := none, defaults := [] }
def defBody (s : Stmt) : List Stmt := match s with
  | .FunctionDef _ _ b _ _ _ _ _ _ _ => b
  | _ => []
def defScope (s : Stmt) : Scope := match s with
  | .FunctionDef _ _ _ _ _ _ sc _ _ _ => sc
  | _ => { kind := .function, names := [], isGenerator := false, isCoroutine := false }

/-! ### no exception leaves a def -/
abbrev CX0 : CXT := fun _ _ _ _ _ _ => False
abbrev E0 : XK := fun _ _ _ => False
theorem pass0 {X : Cx} : Passes CX0 X E0 := fun _ _ _ _ _ _ _ h => h.elim

/-! ### a def (or method) of the text as it stands behind the top -/
structure Fun (K : PySem.W.Frag) (x qual : Str) (st : Stmt) (f : Addr) (fd : FuncData) : Prop where
  ex : ∃ (oc : Value) (od : Option Addr) (kV doc pm : Value) (an : Option Addr) (cdv ct : Value) (osl : Array (Option Value)),
    fd = PySem.W.fnOf x qual (defArgs st) (defBody st) (defScope st) .none kV doc pm an cdv ct ∧ K.lookup f = some ⟨oc, od, .func fd, osl⟩ ∧ PySem.W.codeIn K cdv qual = true
  kp : PySem.W.keepIn K (.ref f) = true
section
variable {P : Program} {w : World} {K : PySem.W.Frag} {mg : Str → Option Value} {base : Heap}
/-- THE RULE for a def: its body as a term of rules, and the reading of that term -/
theorem Fun.ok {x qual : Str} {st : Stmt} {f : Addr} {fd : FuncData} {N ps : List Str} {k : Nat} {sp : Sp} (F : Fun K x qual st f fd) (S : FnScope N ps (defScope st)) (len : ∀ vs H Q E, sp vs H Q E → vs.length = ps.length)
    (hbody : ∀ (cdv : Value) (A : Around) (outer : List Env) (s : Shared) (H : Hp) (vs : List V) (Q : VK) (E : XK), Room k (A.deeper (envOfC qual (defScope st) s.heap.objs.size f cdv)) → sp vs H Q E →
      ∃ t, PSs (cxOf CX0 P w K mg base N qual (defScope st) f cdv A outer s H E).nox (defBody st) t ∧ t { nx := fun _ H' => Q .non H', rt := Q } (start N vs) H) : FnOk P w K mg base CX0 (k + 1) f fd ps sp := by
  obtain ⟨oc, od, kV, doc, pm, an, cdv, ct, osl, rfl, lk, hcd⟩ := F.ex
  refine fn_of lk hcd S len fun A outer s H vs Q E hr hsp => ?_
  obtain ⟨t, h, q⟩ := hbody cdv A outer s H vs Q E hr hsp
  exact ⟨t, h.nox, q⟩
/-- how its arguments bind (no defaults): h is «fun _ _ _ _ _ _ us hl => match us, hl with | [_, _], _ => rfl», one _ a parameter -/
theorem Fun.binds {x qual : Str} {st : Stmt} {f : Addr} {fd : FuncData} {ps : List Str} (F : Fun K x qual st f fd)
    (h : ∀ (kV doc pm : Value) (an : Option Addr) (cdv ct : Value) (us : List Value), us.length = ps.length → bindArgs (PySem.W.fnOf x qual (defArgs st) (defBody st) (defScope st) .none kV doc pm an cdv ct) ⟨us, []⟩ = pure (ps.zip us)) : Binds K fd ps [] := by
  obtain ⟨oc, od, kV, doc, pm, an, cdv, ct, osl, rfl, lk, hcd⟩ := F.ex
  exact .all (h kV doc pm an cdv ct)
theorem fun_mk {x qual : Str} {st : Stmt} {f : Addr} {oc : Value} {od an : Option Addr} {osl : Array (Option Value)} {kV doc pm cdv ct : Value} (l : K.lookup f = some ⟨oc, od, .func (PySem.W.fnOf x qual (defArgs st) (defBody st) (defScope st) .none kV doc pm an cdv ct), osl⟩)
    (c : PySem.W.codeIn K cdv qual = true) (k : PySem.W.keepIn K (.ref f) = true) : Fun K x qual st f (PySem.W.fnOf x qual (defArgs st) (defBody st) (defScope st) .none kV doc pm an cdv ct) := ⟨⟨oc, od, kV, doc, pm, an, cdv, ct, osl, rfl, l, c⟩, k⟩
end
theorem small1000 {n : Nat} (h : n ≤ 1000) : n < sizeLine := Nat.lt_of_le_of_lt h (by decide)

/-! ### expressions in short: the name that stands in the i-th slot -/
section
variable {X : Cx}
theorem pv (i : Nat) {x : Str} {pos : Pos} (hN : X.N[i]? = some x := by rfl) (hv : Vis X.env.scope x := by first | exact Or.inl rfl | exact Or.inr (Or.inl rfl) | exact Or.inr (Or.inr rfl)) (hd : (x == ("__debug__" : Str)) = false := by decide)
    (hcd : (x == ("__classdict__" : Str)) = false := by decide) : PE X (.Name x pos) (tVar i) := pe_var hN hv hd hcd
end

/-! ### tests -/
theorem iteF {A B : Prop} (h : B) : if false = true then A else B := by
  rw [if_neg Bool.false_ne_true]
  exact h
theorem ite2 {c A B : Prop} [Decidable c] (h1 : c → A) (h2 : ¬ c → B) : if c then A else B := by
  by_cases h : c
  · rw [if_pos h]
    exact h1 h
  · rw [if_neg h]
    exact h2 h
/-! ### heaps -/
/-- all that was tracked is as it was -/
def Same (H H' : Hp) : Prop := ∀ b o, H b = some o → H' b = some o
theorem Same.refl (H : Hp) : Same H H := fun _ _ h => h
theorem Same.trans {H H1 H2 : Hp} (a : Same H H1) (b : Same H1 H2) : Same H H2 := fun c o h => b c o (a c o h)
theorem Same.seq {K : PySem.W.Frag} {H H' : Hp} {a : Addr} {xs : List V} (e : Same H H') (h : SqL K H a xs) : SqL K H' a xs := by
  rcases h with (h | ⟨o, h⟩) | h
  · exact .inl (.inl (e _ _ h))
  · exact .inl (.inr ⟨o, e _ _ h⟩)
  · exact .inr h

/-! ### a dict's pairs: keys that differ -/
section
variable {κ : Type} [DecidableEq κ]
end
/-! ### lists -/
end L2

section
set_option linter.all false
set_option maxRecDepth 100000
set_option maxHeartbeats 2000000
namespace L2
open PySem PySem.Spec PyProof.Rows
open PySem.W (WData Codec OpenSpec Well WellAll ReadsW ReadsAllW)
/-! ### an answer as data -/
mutual
/-- x stands for the datum d, lists and tuples all the way -/
inductive Dw (K : PySem.W.Frag) (H : Hp) : V → WData → Prop
  | non : Dw K H .non .none
  | bl (b : Bool) : Dw K H (.bl b) (.bool b)
  | int (i : Int) : Dw K H (.int i) (.int i)
  | str (x : Str) : Dw K H (.str x) (.str x)
  | byt (b : Array UInt8) : Dw K H (.byt b) (.bytes b.toList)
  | lst {a : Addr} {xs : List V} {ds : List WData} : SqL K H a xs → DwAll K H xs ds → Dw K H (.ref a) (.list ds)
  | tup {a : Addr} {xs : List V} {ds : List WData} : SqT K H a xs → DwAll K H xs ds → Dw K H (.ref a) (.tuple ds)
inductive DwAll (K : PySem.W.Frag) (H : Hp) : List V → List WData → Prop
  | nil : DwAll K H [] []
  | cons {v : V} {vs : List V} {d : WData} {ds : List WData} : Dw K H v d → DwAll K H vs ds → DwAll K H (v :: vs) (d :: ds)
end
theorem dw_ints {K : PySem.W.Frag} {H : Hp} : ∀ ns : List Int, DwAll K H (ns.map V.int) (ns.map WData.int)
  | [] => .nil
  | n :: r => .cons (.int n) (dw_ints r)
theorem ints_dw {K : PySem.W.Frag} {H : Hp} : ∀ (ns : List Int) (xs : List V), DwAll K H xs (ns.map WData.int) → xs = ns.map V.int
  | [], xs, h => by
    cases h
    rfl
  | n :: r, xs, h => by
    cases h with
    | cons h1 h2 =>
      cases h1
      rw [ints_dw r _ h2] <;> rfl
section
variable {P : Program} {w : World} {K : PySem.W.Frag} {H : Hp} {h : Heap} {R : PySem.W.WRecords} {cl : Str → Option Addr}
theorem sqL_at {a : Addr} {xs : List V} (hok : HOk P w H h) (KX : K.In h) (q : SqL K H a xs) : ∃ (its : List Value) (o : Obj) (n : Nat), Vals xs its ∧ h.get? a = some o ∧ o.cls = .type "list" ∧ o.data = .seq its.toArray n := by
  rcases q with q | ⟨o, its, n, e, hc, _, hd, _, hv⟩
  · obtain ⟨_, its, n, hv, e⟩ := (show ObjOk P w H h a (.lst xs) from q.ok hok)
    exact ⟨its, _, n, hv, e, rfl, rfl⟩
  · exact ⟨its.toList, o, n, hv, KX _ _ e, hc, by simp [hd]⟩
theorem sqT_at {a : Addr} {xs : List V} (hok : HOk P w H h) (KX : K.In h) (q : SqT K H a xs) : ∃ (its : List Value) (o : Obj) (n : Nat), Vals xs its ∧ h.get? a = some o ∧ o.cls = .type "tuple" ∧ o.data = .seq its.toArray n := by
  rcases q with q | ⟨o, its, n, e, hc, hd, _, hv⟩
  · obtain ⟨_, its, hv, o, e, hc, n, hd⟩ := (show ObjOk P w H h a (.tup xs) from q.ok hok)
    exact ⟨its, o, n, hv, e, hc, hd⟩
  · exact ⟨its.toList, o, n, hv, KX _ _ e, hc, by simp [hd]⟩
mutual
theorem Dw.reads (hok : HOk P w H h) (KX : K.In h) : ∀ (d : WData) (v : V) (u : Value), Dw K H v d → RelV v u → ∃ as, ReadsW R cl h u d as
  | .none, _, _, x, r => by
    cases x
    cases r
    exact ⟨_, ReadsW.none⟩
  | .bool b, _, _, x, r => by
    cases x
    cases r
    exact ⟨_, ReadsW.bool b⟩
  | .int i, _, _, x, r => by
    cases x
    obtain ⟨t, rfl⟩ := r
    exact ⟨_, ReadsW.int i t⟩
  | .str s, _, _, x, r => by
    cases x
    obtain ⟨t, rfl⟩ := r
    exact ⟨_, ReadsW.str s t⟩
  | .bytes b, _, _, x, r => by
    cases x
    obtain ⟨t, rfl⟩ := r
    exact ⟨_, ReadsW.bytes _ t⟩
  | .list ds, _, _, x, r => by
    cases x with
    | lst hs ha =>
      cases r
      obtain ⟨its, o, n, rv, ho, hc, hd⟩ := sqL_at hok KX hs
      obtain ⟨as, hr⟩ := Dw.readsAll hok KX ds _ its ha rv
      exact ⟨_, ReadsW.list ho hc hd hr⟩
  | .tuple ds, _, _, x, r => by
    cases x with
    | tup hs ha =>
      cases r
      obtain ⟨its, o, n, rv, ho, hc, hd⟩ := sqT_at hok KX hs
      obtain ⟨as, hr⟩ := Dw.readsAll hok KX ds _ its ha rv
      exact ⟨_, ReadsW.tuple ho hc hd hr⟩
  | .float _, _, _, x, _ => by cases x
  | .dict _, _, _, x, _ => by cases x
  | .bytearray _, _, _, x, _ => by cases x
  | .set _, _, _, x, _ => by cases x
  | .frozenset _, _, _, x, _ => by cases x
  | .obj _ _, _, _, x, _ => by cases x
theorem Dw.readsAll (hok : HOk P w H h) (KX : K.In h) : ∀ (ds : List WData) (vs : List V) (us : List Value), DwAll K H vs ds → Vals vs us → ∃ as, ReadsAllW R cl h us ds as
  | [], _, _, x, r => by
    cases x
    cases r
    exact ⟨_, ReadsAllW.nil⟩
  | d :: ds, _, _, x, r => by
    cases x with
    | cons h1 h2 =>
      cases r with
      | cons r1 r2 =>
        obtain ⟨as, q1⟩ := Dw.reads hok KX d _ _ h1 r1
        obtain ⟨bs, q2⟩ := Dw.readsAll hok KX ds _ _ h2 r2
        exact ⟨_, ReadsAllW.cons q1 q2⟩
end
end
/-! ### the arguments -/
mutual
/-- data that a codec tells -/
def plW : WData → Bool
  | .none => true
  | .bool _ => true
  | .int _ => true
  | .str _ => true
  | .bytes _ => true
  | .list xs => plWs xs
  | .tuple xs => plWs xs
  | _ => false
def plWs : List WData → Bool
  | [] => true
  | x :: r => plW x && plWs r
end
theorem plWs_map {α : Type} {f : α → WData} (h : ∀ a, plW (f a) = true) : ∀ l : List α, plWs (l.map f) = true
  | [] => rfl
  | x :: r => by
    show (plW (f x) && plWs (r.map f)) = true
    rw [h x, plWs_map h r] <;> rfl
theorem pl_enc : ∀ (c : Codec) (a : c.denote), plW (c.enc a) = true
  | .unit, _ => rfl
  | .bool, _ => rfl
  | .int _ _, _ => rfl
  | .nat _ _, _ => rfl
  | .u8, _ => rfl
  | .bytes _ _, _ => rfl
  | .text _ _ _ _, _ => rfl
  | .list _ _ c, a => plWs_map (fun x => pl_enc c x) a
  | .pair c d, a => by
    show (plW (c.enc a.1) && (plW (d.enc a.2) && true)) = true
    rw [pl_enc c a.1, pl_enc d a.2] <;> rfl
  | .triple c d e, a => by
    show (plW (c.enc a.1) && (plW (d.enc a.2.1) && (plW (e.enc a.2.2) && true))) = true
    rw [pl_enc c a.1, pl_enc d a.2.1, pl_enc e a.2.2] <;> rfl
  | .option c, none => rfl
  | .option c, some x => pl_enc c x
theorem pl_encAll : ∀ (cs : List Codec) (a : Codec.denoteAll cs), plWs (Codec.encAll cs a) = true
  | [], _ => rfl
  | c :: cs, a => by
    show (plW (c.enc a.1) && plWs (Codec.encAll cs a.2)) = true
    rw [pl_enc c a.1, pl_encAll cs a.2] <;> rfl
theorem weight_mem : ∀ {xs : List WData} {d : WData}, d ∈ xs → d.weight ≤ WData.weightAll xs
  | [], d, h => absurd h (by simp)
  | x :: r, d, h => by
    show d.weight ≤ x.weight + 1 + WData.weightAll r
    rcases List.mem_cons.mp h with e | m
    · rw [e]
      omega
    · have z := weight_mem m
      omega
def toV : Value → V
  | .none => .non
  | .bool b => .bl b
  | .int i _ => .int i
  | .str x _ => .str x
  | .bytes b _ => .byt b
  | .ref a => .ref a
  | _ => .non
/-- a value of the arguments, its objects among A -/
def OkU (A : List Addr) : Value → Prop
  | .none => True
  | .bool _ => True
  | .int _ _ => True
  | .str _ _ => True
  | .bytes _ _ => True
  | .ref a => a ∈ A
  | _ => False
theorem OkU.mono {A B : List Addr} (h : ∀ a ∈ A, a ∈ B) : ∀ {u : Value}, OkU A u → OkU B u := fun {u} x => by
  cases u with
  | ref a => exact h a x
  | none => trivial
  | bool b => trivial
  | int i t => trivial
  | str s t => trivial
  | bytes b t => trivial
  | _ => exact False.elim x
theorem relV_toV {A : List Addr} {u : Value} (x : OkU A u) : RelV (toV u) u := by
  cases u with
  | ref a => rfl
  | none => rfl
  | bool b => rfl
  | int i t => exact ⟨t, rfl⟩
  | str s t => exact ⟨t, rfl⟩
  | bytes b t => exact ⟨t, rfl⟩
  | _ => exact False.elim x
theorem vals_toV {A : List Addr} : ∀ {vs : List Value}, (∀ u ∈ vs, OkU A u) → Vals (vs.map toV) vs
  | [], _ => .nil
  | u :: r, h => .cons (relV_toV (h u (List.mem_cons_self ..))) (vals_toV fun x hx => h x (List.mem_cons_of_mem _ hx))
/-- an object of the arguments -/
def ArgOb (h : Heap) (A : List Addr) (a : Addr) : Prop := ∃ vs : List Value, vs.length ≤ sizeLine ∧ (∀ u ∈ vs, OkU A u) ∧
  (h.get? a = some { cls := .type "list", data := .seq vs.toArray } ∨ h.get? a = some { cls := .type "tuple", data := .seq vs.toArray })
theorem ArgOb.mono {h : Heap} {A B : List Addr} {a : Addr} (k : ∀ a ∈ A, a ∈ B) (x : ArgOb h A a) : ArgOb h B a := by
  obtain ⟨vs, h1, h2, h3⟩ := x
  exact ⟨vs, h1, fun u hu => (h2 u hu).mono k, h3⟩
theorem wellAll_len {P : Params} {h : Heap} : ∀ {vs : List Value} {ds : List WData}, WellAll P h vs ds → vs.length = ds.length
  | _, _, .nil => rfl
  | _, _, .cons _ b => by
    show _ + 1 = _ + 1
    rw [wellAll_len b]
theorem well_list {P : Params} {h : Heap} {v : Value} {ds : List WData} (x : Well P h v (.list ds)) : ∃ (a : Addr) (vs : List Value), v = .ref a ∧ h.get? a = some { cls := .type "list", data := .seq vs.toArray } ∧ WellAll P h vs ds := by
  cases x with
  | list ho hall => exact ⟨_, _, rfl, ho, hall⟩
theorem well_tuple {P : Params} {h : Heap} {v : Value} {ds : List WData} (x : Well P h v (.tuple ds)) : ∃ (a : Addr) (vs : List Value), v = .ref a ∧ h.get? a = some { cls := .type "tuple", data := .seq vs.toArray } ∧ WellAll P h vs ds := by
  cases x with
  | tuple ho hall => exact ⟨_, _, rfl, ho, hall⟩
theorem well_cons {P : Params} {h : Heap} {us : List Value} {d : WData} {ds : List WData} (x : WellAll P h us (d :: ds)) : ∃ (v : Value) (vs : List Value), us = v :: vs ∧ Well P h v d ∧ WellAll P h vs ds := by
  cases x with
  | cons a b => exact ⟨_, _, rfl, a, b⟩
theorem line_of {n : Nat} (h : n ≤ 1048576) : n ≤ sizeLine := Nat.le_trans h (by decide)
section
variable {P : Params} {h : Heap}
mutual
theorem area_one : ∀ (d : WData) (v : Value), Well P h v d → plW d = true → d.weight ≤ 1048576 → ∃ A : List Addr, OkU A v ∧ ∀ a ∈ A, ArgOb h A a
  | .none, _, x, _, _ => by
    cases x
    exact ⟨[], trivial, fun a m => absurd m (by simp)⟩
  | .bool b, _, x, _, _ => by
    cases x
    exact ⟨[], trivial, fun a m => absurd m (by simp)⟩
  | .int i, _, x, _, _ => by
    cases x
    exact ⟨[], trivial, fun a m => absurd m (by simp)⟩
  | .str s, _, x, _, _ => by
    cases x
    exact ⟨[], trivial, fun a m => absurd m (by simp)⟩
  | .bytes b, _, x, _, _ => by
    cases x
    exact ⟨[], trivial, fun a m => absurd m (by simp)⟩
  | .list ds, _, x, p, z => by
    obtain ⟨a, vs, rfl, ho, hall⟩ := well_list x
    have z2 : WData.weightAll ds ≤ 1048576 := z
    obtain ⟨A, h1, h2⟩ := area_all ds _ hall p fun d hd => Nat.le_trans (weight_mem hd) z2
    have k : ∀ b ∈ A, b ∈ a :: A := fun b hb => List.mem_cons_of_mem _ hb
    refine ⟨a :: A, List.mem_cons_self .., fun b hb => ?_⟩
    rcases List.mem_cons.mp hb with e | m
    · rw [e]
      exact ⟨vs, line_of (by rw [wellAll_len hall]; exact Nat.le_trans (PySem.W.length_le_weightAllW ds) z2), fun u hu => (h1 u hu).mono k, .inl ho⟩
    · exact (h2 b m).mono k
  | .tuple ds, _, x, p, z => by
    obtain ⟨a, vs, rfl, ho, hall⟩ := well_tuple x
    have z2 : WData.weightAll ds ≤ 1048576 := z
    obtain ⟨A, h1, h2⟩ := area_all ds _ hall p fun d hd => Nat.le_trans (weight_mem hd) z2
    have k : ∀ b ∈ A, b ∈ a :: A := fun b hb => List.mem_cons_of_mem _ hb
    refine ⟨a :: A, List.mem_cons_self .., fun b hb => ?_⟩
    rcases List.mem_cons.mp hb with e | m
    · rw [e]
      exact ⟨vs, line_of (by rw [wellAll_len hall]; exact Nat.le_trans (PySem.W.length_le_weightAllW ds) z2), fun u hu => (h1 u hu).mono k, .inr ho⟩
    · exact (h2 b m).mono k
  | .float _, _, _, p, _ => Bool.noConfusion (show false = true from p)
  | .dict _, _, _, p, _ => Bool.noConfusion (show false = true from p)
  | .bytearray _, _, _, p, _ => Bool.noConfusion (show false = true from p)
  | .set _, _, _, p, _ => Bool.noConfusion (show false = true from p)
  | .frozenset _, _, _, p, _ => Bool.noConfusion (show false = true from p)
  | .obj _ _, _, _, p, _ => Bool.noConfusion (show false = true from p)
theorem area_all : ∀ (ds : List WData) (vs : List Value), WellAll P h vs ds → plWs ds = true → (∀ d ∈ ds, d.weight ≤ 1048576) → ∃ A : List Addr, (∀ u ∈ vs, OkU A u) ∧ ∀ a ∈ A, ArgOb h A a
  | [], _, x, _, _ => by
    cases x
    exact ⟨[], fun u m => absurd m (by simp), fun a m => absurd m (by simp)⟩
  | d :: ds, _, x, p, z => by
    obtain ⟨v, vs, rfl, x1, x2⟩ := well_cons x
    have q : plW d = true ∧ plWs ds = true := Bool.and_eq_true_iff.mp p
    obtain ⟨A, a1, a2⟩ := area_one d v x1 q.1 (z d (List.mem_cons_self ..))
    obtain ⟨B, b1, b2⟩ := area_all ds vs x2 q.2 fun e he => z e (List.mem_cons_of_mem _ he)
    have kA : ∀ b ∈ A, b ∈ A ++ B := fun b hb => List.mem_append.mpr (.inl hb)
    have kB : ∀ b ∈ B, b ∈ A ++ B := fun b hb => List.mem_append.mpr (.inr hb)
    refine ⟨A ++ B, fun u hu => ?_, fun b hb => ?_⟩
    · rcases List.mem_cons.mp hu with e | m
      · rw [e]
        exact a1.mono kA
      · exact (b1 u m).mono kB
    · rcases List.mem_append.mp hb with m | m
      · exact (a2 b m).mono kA
      · exact (b2 b m).mono kB
end
end
/-- what is tracked of an argument's object -/
def hoOf (o : Obj) : Option HO := match o.data with
  | .seq vs _ => if (o.cls == Value.type "list") = true then some (.frz o (.lst (vs.toList.map toV))) else some (.frz o (.tup (vs.toList.map toV)))
  | _ => none
def argH (K : PySem.W.Frag) (h : Heap) (A : List Addr) : Hp := fun b => if b ∈ A then (if (K.lookup b).isNone = true then (h.get? b).bind hoOf else none) else none
/-- nothing is tracked but what is known to the object -/
def OnlyF (H : Hp) : Prop := ∀ b, H b = none ∨ ∃ o u, H b = some (.frz o u)
theorem hoOf_lst (vs : List Value) : hoOf { cls := .type "list", data := .seq vs.toArray } = some (.frz { cls := .type "list", data := .seq vs.toArray } (.lst (vs.map toV))) := by
  show (if (Value.type "list" == Value.type "list") = true then some (HO.frz { cls := .type "list", data := .seq vs.toArray } (.lst (vs.toArray.toList.map toV))) else some (HO.frz { cls := .type "list", data := .seq vs.toArray } (.tup (vs.toArray.toList.map toV)))) = _
  rw [if_pos (beq_self_eq_true _)]
theorem hoOf_tup (vs : List Value) : hoOf { cls := .type "tuple", data := .seq vs.toArray } = some (.frz { cls := .type "tuple", data := .seq vs.toArray } (.tup (vs.map toV))) := by
  show (if (Value.type "tuple" == Value.type "list") = true then some (HO.frz { cls := .type "tuple", data := .seq vs.toArray } (.lst (vs.toArray.toList.map toV))) else some (HO.frz { cls := .type "tuple", data := .seq vs.toArray } (.tup (vs.toArray.toList.map toV)))) = _
  rw [if_neg (by decide)]
section
variable {P : Program} {w : World} {K : PySem.W.Frag} {h : Heap} {A : List Addr}
theorem argH_at {b : Addr} {o : Obj} (hb : b ∈ A) (hk : K.lookup b = none) (e : h.get? b = some o) : argH K h A b = hoOf o := by
  unfold argH
  rw [if_pos hb, hk, if_pos (show (none : Option Obj).isNone = true from rfl), e] <;> rfl
theorem of_argH {b : Addr} {u : HO} (q : argH K h A b = some u) : b ∈ A ∧ K.lookup b = none := by
  unfold argH at q
  by_cases hb : b ∈ A
  · rw [if_pos hb] at q
    cases hk : K.lookup b with
    | none => exact ⟨hb, rfl⟩
    | some o =>
      rw [hk, if_neg (by simp)] at q
      cases q
  · rw [if_neg hb] at q
    cases q
/-- what stands tracked -/
theorem argH_is (ar : ∀ a ∈ A, ArgOb h A a) {b : Addr} {u : HO} (q : argH K h A b = some u) : K.lookup b = none ∧ ∃ vs : List Value, vs.length ≤ sizeLine ∧ (∀ u ∈ vs, OkU A u) ∧
    ((h.get? b = some { cls := .type "list", data := .seq vs.toArray } ∧ u = .frz { cls := .type "list", data := .seq vs.toArray } (.lst (vs.map toV))) ∨
     (h.get? b = some { cls := .type "tuple", data := .seq vs.toArray } ∧ u = .frz { cls := .type "tuple", data := .seq vs.toArray } (.tup (vs.map toV)))) := by
  obtain ⟨hb, hk⟩ := of_argH q
  obtain ⟨vs, h1, h2, h3⟩ := ar b hb
  refine ⟨hk, vs, h1, h2, ?_⟩
  rcases h3 with e | e
  · rw [argH_at hb hk e, hoOf_lst] at q
    exact .inl ⟨e, (Option.some.inj q).symm⟩
  · rw [argH_at hb hk e, hoOf_tup] at q
    exact .inr ⟨e, (Option.some.inj q).symm⟩
theorem argH_only (ar : ∀ a ∈ A, ArgOb h A a) : OnlyF (argH K h A) := fun b => by
  cases q : argH K h A b with
  | none => exact .inl rfl
  | some u =>
    obtain ⟨_, vs, _, _, ⟨_, e⟩ | ⟨_, e⟩⟩ := argH_is ar q
    · exact .inr ⟨_, _, by rw [e]⟩
    · exact .inr ⟨_, _, by rw [e]⟩
theorem argH_ok (ar : ∀ a ∈ A, ArgOb h A a) : HOk P w (argH K h A) h := fun b u q => by
  obtain ⟨_, vs, h1, h2, ⟨e, rfl⟩ | ⟨e, rfl⟩⟩ := argH_is ar q
  · exact ⟨e, by rw [List.length_map]; exact h1, vs, _, vals_toV h2, e⟩
  · exact ⟨e, by rw [List.length_map]; exact h1, vs, vals_toV h2, _, e, rfl, _, rfl⟩
theorem seq_inj {c c' : Value} {vs us : List Value} (e : (some { cls := c, data := .seq vs.toArray } : Option Obj) = some { cls := c', data := .seq us.toArray }) : c = c' ∧ vs = us := by
  have e1 := Option.some.inj e
  have e2 : c = c' := congrArg Obj.cls e1
  have e3 : Data.seq vs.toArray = Data.seq us.toArray := congrArg Obj.data e1
  injection e3 with e4
  refine ⟨e2, ?_⟩
  have e5 := congrArg Array.toList e4
  simpa using e5
/-- a list argument -/
theorem argL (KX : K.In h) (ar : ∀ a ∈ A, ArgOb h A a) {a : Addr} {vs : List Value} (ha : a ∈ A) (e : h.get? a = some { cls := .type "list", data := .seq vs.toArray }) : (∀ u ∈ vs, OkU A u) ∧ SqL K (argH K h A) a (vs.map toV) := by
  obtain ⟨us, h1, h2, h3⟩ := ar a ha
  have hu : us = vs := by
    rcases h3 with q | q
    · rw [e] at q
      exact (seq_inj q).2.symm
    · rw [e] at q
      exact absurd (Value.type.inj (seq_inj q).1) (by decide)
  subst hu
  refine ⟨h2, ?_⟩
  cases hk : K.lookup a with
  | none => exact .inl (.inr ⟨_, by rw [argH_at ha hk e, hoOf_lst]⟩)
  | some o =>
    have e2 := KX a o hk
    rw [e] at e2
    obtain rfl := Option.some.inj e2
    exact .inr ⟨_, us.toArray, _, hk, rfl, rfl, rfl, by rw [List.size_toArray]; exact h1, by simpa using vals_toV h2⟩
theorem argT (KX : K.In h) (ar : ∀ a ∈ A, ArgOb h A a) {a : Addr} {vs : List Value} (ha : a ∈ A) (e : h.get? a = some { cls := .type "tuple", data := .seq vs.toArray }) : (∀ u ∈ vs, OkU A u) ∧ SqT K (argH K h A) a (vs.map toV) := by
  obtain ⟨us, h1, h2, h3⟩ := ar a ha
  have hu : us = vs := by
    rcases h3 with q | q
    · rw [e] at q
      exact absurd (Value.type.inj (seq_inj q).1) (by decide)
    · rw [e] at q
      exact (seq_inj q).2.symm
  subst hu
  refine ⟨h2, ?_⟩
  cases hk : K.lookup a with
  | none => exact .inl (.inr ⟨_, by rw [argH_at ha hk e, hoOf_tup]⟩)
  | some o =>
    have e2 := KX a o hk
    rw [e] at e2
    obtain rfl := Option.some.inj e2
    exact .inr ⟨_, us.toArray, _, hk, rfl, rfl, by rw [List.size_toArray]; exact h1, by simpa using vals_toV h2⟩
mutual
theorem dw_one {Pm : Params} (KX : K.In h) (ar : ∀ a ∈ A, ArgOb h A a) : ∀ (d : WData) (v : Value), Well Pm h v d → plW d = true → OkU A v → Dw K (argH K h A) (toV v) d
  | .none, _, x, _, _ => by
    cases x
    exact .non
  | .bool b, _, x, _, _ => by
    cases x
    exact .bl b
  | .int i, _, x, _, _ => by
    cases x
    exact .int i
  | .str s, _, x, _, _ => by
    cases x
    exact .str s
  | .bytes b, _, x, _, _ => by
    cases x
    have z := Dw.byt (K := K) (H := argH K h A) b.toArray
    exact z
  | .list ds, _, x, p, hu => by
    obtain ⟨a, vs, rfl, ho, hall⟩ := well_list x
    obtain ⟨h2, hs⟩ := argL KX ar hu ho
    exact .lst hs (dw_all KX ar ds _ hall p h2)
  | .tuple ds, _, x, p, hu => by
    obtain ⟨a, vs, rfl, ho, hall⟩ := well_tuple x
    obtain ⟨h2, hs⟩ := argT KX ar hu ho
    exact .tup hs (dw_all KX ar ds _ hall p h2)
  | .float _, _, _, p, _ => Bool.noConfusion (show false = true from p)
  | .dict _, _, _, p, _ => Bool.noConfusion (show false = true from p)
  | .bytearray _, _, _, p, _ => Bool.noConfusion (show false = true from p)
  | .set _, _, _, p, _ => Bool.noConfusion (show false = true from p)
  | .frozenset _, _, _, p, _ => Bool.noConfusion (show false = true from p)
  | .obj _ _, _, _, p, _ => Bool.noConfusion (show false = true from p)
theorem dw_all {Pm : Params} (KX : K.In h) (ar : ∀ a ∈ A, ArgOb h A a) : ∀ (ds : List WData) (vs : List Value), WellAll Pm h vs ds → plWs ds = true → (∀ u ∈ vs, OkU A u) → DwAll K (argH K h A) (vs.map toV) ds
  | [], _, x, _, _ => by
    cases x
    exact .nil
  | d :: ds, _, x, p, hu => by
    obtain ⟨v, vs, rfl, x1, x2⟩ := well_cons x
    have q : plW d = true ∧ plWs ds = true := Bool.and_eq_true_iff.mp p
    exact .cons (dw_one KX ar d v x1 q.1 (hu _ (List.mem_cons_self ..))) (dw_all KX ar ds vs x2 q.2 fun u m => hu u (List.mem_cons_of_mem _ m))
end
end
/-! ### the call -/
theorem spec_call {P : Program} {w : World} {K : PySem.W.Frag} {mg mb : Str → Option Value} {CX : CXT} {k : Nat} {fa : Addr} {fd : FuncData} {ps : List Str} {sp : Sp} {s₁ : Shared} {vals : List Value} {ds : List WData} {R : PySem.W.WRecords} {cl : Str → Option Addr} {d0 : WData}
    (KX : K.In s₁.heap) (hns : s₁.heap.Ns mainGlobals mg) (hb : s₁.heap.Ns builtinsNs mb) (hbb : ∀ x : Str, x ≠ "__name__" → mb x = bootBuiltins x) (hlim : s₁.heap.NoLimit) (hg : s₁.gens = #[])
    (hwl : WellAll w.params s₁.heap vals ds) (hpl : plWs ds = true) (hwt : ∀ d ∈ ds, d.weight ≤ 1048576) (hr : Room k callerA)
    (F : ∀ base : Heap, K.In base → base.Ns mainGlobals mg → FnOk P w K mg base CX k fa fd ps sp) (hbind : ∀ (s : Shared) (us : List Value), us.length = ps.length → BindsTo s fd ⟨us, []⟩ (ps.zip us)) (hlen : ds.length = ps.length)
    (hsp : ∀ (H : Hp) (xs : List V), OnlyF H → DwAll K H xs ds → sp xs H (fun v H' => Dw K H' v d0) fun _ _ _ => False)
    (hCX : ∀ H e s', CX [] H s₁ (fun _ _ _ => False) e s' → False) :
    codeAny (model P w) callerA (.call (.ref fa) ⟨vals, []⟩) (fun r s' => ∃ u as, r = .ok (.ret u) ∧ ReadsW R cl s'.heap u d0 as ∧ OldK s₁.heap s'.heap ∧ s'.os = s₁.os ∧ AllBare s'.gens) s₁ := by
  obtain ⟨A, ho, ar⟩ := area_all ds vals hwl hpl hwt
  have hO : OnlyF (argH K s₁.heap A) := argH_only ar
  have hok : HOk P w (argH K s₁.heap A) s₁.heap := argH_ok ar
  have hS := dw_all KX ar ds vals hwl hpl ho
  have hV := vals_toV ho
  have hK : ∀ b u, argH K s₁.heap A b = some u → K.lookup b = none := fun b u q => (argH_is ar q).1
  have noA : ∀ {b : Addr} {o : Obj} {es : Array DictEntry} {ep : Nat}, s₁.heap.get? b = some o → o.data = .dict es ep → argH K s₁.heap A b = none := fun {b o es ep} e d => by
    cases q : argH K s₁.heap A b with
    | none => rfl
    | some u =>
      obtain ⟨_, vs, _, _, ⟨e2, _⟩ | ⟨e2, _⟩⟩ := argH_is ar q
      · rw [e2] at e
        cases e
        have d' : Data.seq vs.toArray _ = Data.dict es ep := d
        cases d'
      · rw [e2] at e
        cases e
        have d' : Data.seq vs.toArray _ = Data.dict es ep := d
        cases d'
  generalize argH K s₁.heap A = H at hO hok hS hK noA
  have base_of : ∀ {b : Addr} {o : Obj}, s₁.heap.get? b = some o → H b = none → (hidT s₁.heap H).get? b = some o := fun e n => hidT_get e n
  have nsK : ∀ {b : Addr} {m : Str → Option Value}, s₁.heap.Ns b m → (hidT s₁.heap H).Ns b m := fun {b m} ⟨o, es, ep, e, d, r⟩ => ⟨o, es, ep, base_of e (noA e d), d, r⟩
  have nK : ∀ b o, K.lookup b = some o → H b = none := fun b o e => by
    cases q : H b with
    | none => rfl
    | some u =>
      rw [hK b u q] at e
      cases e
  have hKb : K.In (hidT s₁.heap H) := fun b o e => base_of (KX b o e) (nK b o e)
  have hM : Mod K mg (hidT s₁.heap H) := ⟨hKb, nsK hns, ⟨mb, nsK hb, hbb⟩, let ⟨mc, h1, h2⟩ := hlim; ⟨mc, nsK h1, h2⟩⟩
  have e0 : Env0 P w K mg (hidT s₁.heap H) callerA [] s₁ H := ⟨rfl, hM, fun b o e => of_hidT e, Nat.le_of_eq (hidT_size _ _), trivial, fun b hb => absurd (show b ∈ ([] : List Addr) from hb) (by simp), hok, .of_eq hg⟩
  have hl : vals.length = ps.length := by rw [wellAll_len hwl]; exact hlen
  refine codeAny_mono ((F _ hKb (nsK hns)).run callerA [] s₁ H ⟨vals, []⟩ vals (vals.map toV) _ _ hr e0 (hbind s₁ vals hl) hV (hsp H _ hO hS)) fun r s' x => ?_
  cases r with
  | error e => exact (hCX H e s' x).elim
  | ok fl =>
    cases fl with
    | next => exact False.elim x
    | brk => exact False.elim x
    | cont => exact False.elim x
    | ret u =>
      obtain ⟨v, H', os, bare, un, hok', r', q⟩ := x
      have kept : ∀ b o, s₁.heap.get? b = some o → s'.heap.get? b = some o := fun b o e => by
        cases q2 : H b with
        | none => exact un.keep b o e q2 (by intro z; exact absurd (show b ∈ ([] : List Addr) from z) (by simp)) (by simp)
        | some u2 =>
          rcases hO b with z | ⟨ob, u3, z⟩
          · rw [q2] at z
            cases z
          · have z2 := un.frzs b ob _ z
            obtain ⟨e1, _⟩ := hok b _ z
            obtain ⟨e2, _⟩ := hok' b _ z2
            rw [e] at e1
            cases e1
            exact e2
      have KX' : K.In s'.heap := fun b o e => kept b o (KX b o e)
      obtain ⟨as, hrd⟩ := Dw.reads (R := R) (cl := cl) hok' KX' d0 v u q r'
      exact ⟨u, as, rfl, hrd, OldK.of_keep kept, os, bare⟩
/-! ### the row -/
theorem layable_weight {ds : List WData} (h : WData.layableAll ds = true) : ∀ d ∈ ds, d.weight ≤ 1048576 := fun d hd =>
  (PySem.W.layableW_iff.mp (List.all_eq_true.mp h d hd)).2.2
theorem encAll_len : ∀ (cs : List Codec) (a : Codec.denoteAll cs), (Codec.encAll cs a).length = cs.length
  | [], _ => rfl
  | c :: cs, a => by
    show (Codec.encAll cs a.2).length + 1 = cs.length + 1
    rw [encAll_len cs a.2]
/-- the goal that k_headS leaves (case hc), from the promise of the row's def: whatever the arguments that the codecs let and the row asks for, the def gives what stands for enc (f ..) -/
theorem walk_spec {r : OpenSpec} {k : Nat} {q : Program} {loose : List Str} {XP : (Str → Option Value) → Heap → Prop} {YP : World → Heap → Prop} {d : DefRec} {K : Params → PySem.W.Frag} {CX : World → CXT} {ps : List Str} {sp : World → Sp}
    (hwell : r.wellSaid = true) (hdf : d.params.defaults = []) (hlen : r.args.length = ps.length) (hr : Room k callerA)
    (hY : ∀ (w : World) (h : Heap), YP w h → (K w.params).In h)
    (F : ∀ (w : World) (mg : Str → Option Value) (fa : Addr) (h : Heap), YP w h → (K w.params).In h → h.Ns mainGlobals mg → mg d.name = some (.ref fa) →
      ∃ fd : FuncData, (∀ (s : Shared) (us : List Value), us.length = ps.length → BindsTo s fd ⟨us, []⟩ (ps.zip us)) ∧
        ∀ base : Heap, (K w.params).In base → base.Ns mainGlobals mg → FnOk r.prog w (K w.params) mg base (CX w) k fa fd ps (sp w))
    (hsp : ∀ (w : World) (H : Hp) (xs : List V) (a : Codec.denoteAll r.args), OnlyF H → Codec.withinAll r.args a = true → Codec.app r.args r.asked a = true → DwAll (K w.params) H xs (Codec.encAll r.args a) →
      sp w xs H (fun v H' => Dw (K w.params) H' v (r.ret.enc (Codec.app r.args r.f a))) fun _ _ _ => False)
    (hCX : ∀ (w : World) (H : Hp) (s : Shared) (e : Value) (s' : Shared), CX w [] H s (fun _ _ _ => False) e s' → False) :
    PySem.W.WalkOS q loose XP YP r d [] (fun f vs => PySem.call f vs) := by
  intro w s_0 s₁ mg mb G Y fa o pm cd doc dV kV ho hd hcd hD hmg hg args vals as hpre hlay hrd hwl hlo
  obtain ⟨a, e1, e2⟩ := PySem.W.os_pre_some hpre
  obtain ⟨e3, hwi⟩ := Codec.encAll_of_decAll r.args args a e1
  subst e3
  have KX := hY w _ Y
  obtain ⟨fd, hb, hF⟩ := F w mg fa _ Y KX G.T.g hmg
  refine PySem.W.enter_call (codeAny_mono (spec_call (R := []) (cl := classAt s_0.heap) (d0 := r.ret.enc (Codec.app r.args r.f a)) KX G.T.g G.T.b G.T.builtins G.T.nolimit hg hwl (pl_encAll _ _) (layable_weight hlay) hr hF hb (by rw [encAll_len]; exact hlen)
    (fun H xs hO hS => hsp w H xs a hO hwi e2 hS) fun H e s' => hCX w H s₁ e s') fun r' s' hq => ?_)
  obtain ⟨u, as', rfl, h1, h2, h3, h4⟩ := hq
  exact ⟨.inl ⟨u, _, as', rfl, fun _ => rfl, h1, (OpenSpec.post_iff hwell hwi _ _).mpr rfl, fun z => Bool.noConfusion (show false = true from z)⟩, h2, h3, h4⟩
/-- the same where the promise hangs on the written part alone -/
theorem walk_specK {r : OpenSpec} {k : Nat} {q : Program} {loose : List Str} {XP : (Str → Option Value) → Heap → Prop} {YP : World → Heap → Prop} {d : DefRec} {K : Params → PySem.W.Frag} {CX : CXT} {ps : List Str} {sp : PySem.W.Frag → Sp}
    (hwell : r.wellSaid = true) (hdf : d.params.defaults = []) (hlen : r.args.length = ps.length) (hr : Room k callerA)
    (hY : ∀ (w : World) (h : Heap), YP w h → (K w.params).In h)
    (F : ∀ (w : World) (mg : Str → Option Value) (fa : Addr) (h : Heap), YP w h → (K w.params).In h → h.Ns mainGlobals mg → mg d.name = some (.ref fa) →
      ∃ fd : FuncData, (∀ (s : Shared) (us : List Value), us.length = ps.length → BindsTo s fd ⟨us, []⟩ (ps.zip us)) ∧
        ∀ base : Heap, (K w.params).In base → base.Ns mainGlobals mg → FnOk r.prog w (K w.params) mg base CX k fa fd ps (sp (K w.params)))
    (hsp : ∀ (K : PySem.W.Frag) (H : Hp) (xs : List V) (a : Codec.denoteAll r.args), OnlyF H → Codec.withinAll r.args a = true → Codec.app r.args r.asked a = true → DwAll K H xs (Codec.encAll r.args a) →
      sp K xs H (fun v H' => Dw K H' v (r.ret.enc (Codec.app r.args r.f a))) fun _ _ _ => False)
    (hCX : ∀ (H : Hp) (s : Shared) (e : Value) (s' : Shared), CX [] H s (fun _ _ _ => False) e s' → False) :
    PySem.W.WalkOS q loose XP YP r d [] (fun f vs => PySem.call f vs) :=
  walk_spec (K := K) (CX := fun _ => CX) (sp := fun w => sp (K w.params)) hwell hdf hlen hr hY F (fun w H xs a h1 h2 h3 h4 => hsp (K w.params) H xs a h1 h2 h3 h4) fun _ H s e s' => hCX H s e s'
end L2
end
set_option linter.all false
/-! Short words of my own over the layer: a def under its name with its promise; numbers of the text's top. -/
namespace Dr
open PySem PySem.Spec PyProof.Rows L2
/-- a def of the text, kept under its name, keeps the promise sp -/
def Df (P : Program) (w : World) (K : PySem.W.Frag) (mg : Str → Option Value) (base : Heap) (x : Str) (k : Nat) (ps : List Str) (sp : Sp) : Prop :=
  ∃ (f : Addr) (fd : FuncData), FnOk P w K mg base CX0 k f fd ps sp ∧ Binds K fd ps [] ∧ mg x = some (.ref f) ∧ PySem.W.keepIn K (.ref f) = true
/-- a def of the text as the top has made it -/
def Raw (K : PySem.W.Frag) (mg : Str → Option Value) (x : Str) (st : Stmt) : Prop := ∃ (f : Addr) (fd : FuncData), Fun K x x st f fd ∧ mg x = some (.ref f)
def Bd (x : Str) (st : Stmt) (ps : List Str) : Prop := ∀ (kV doc pm : Value) (an : Option Addr) (cdv ct : Value) (us : List Value), us.length = ps.length →
  bindArgs (PySem.W.fnOf x x (defArgs st) (defBody st) (defScope st) .none kV doc pm an cdv ct) ⟨us, []⟩ = pure (ps.zip us)
section
variable {P : Program} {w : World} {K : PySem.W.Frag} {mg : Str → Option Value} {base : Heap}
theorem Raw.df {x : Str} {st : Stmt} {N ps : List Str} {k : Nat} {sp : Sp} (R : Raw K mg x st) (S : FnScope N ps (defScope st)) (b : Bd x st ps) (len : ∀ vs H Q E, sp vs H Q E → vs.length = ps.length)
    (hbody : ∀ (f : Addr) (cdv : Value) (A : Around) (outer : List Env) (s : Shared) (H : Hp) (vs : List V) (Q : VK) (E : XK), Room k (A.deeper (envOfC x (defScope st) s.heap.objs.size f cdv)) → sp vs H Q E →
      ∃ t, PSs (cxOf CX0 P w K mg base N x (defScope st) f cdv A outer s H E).nox (defBody st) t ∧ t { nx := fun _ H' => Q .non H', rt := Q } (start N vs) H) : Df P w K mg base x (k + 1) ps sp := by
  obtain ⟨f, fd, F, m⟩ := R
  exact ⟨f, fd, F.ok S len (fun cdv => hbody f cdv), F.binds b, m, F.kp⟩
theorem binds_any {x : Str} {st : Stmt} {f : Addr} {fd : FuncData} {ps : List Str} (F : Fun K x x st f fd) (b : Bd x st ps) : ∀ (s : Shared) (us : List Value), us.length = ps.length → BindsTo s fd ⟨us, []⟩ (ps.zip us) := by
  obtain ⟨oc, od, kV, doc, pm, an, cdv, ct, osl, rfl, lk, hcd⟩ := F.ex
  intro s us h
  exact .of_eq (b kV doc pm an cdv ct us h)
theorem raw_mk {h : Heap} {x : Str} {st : Stmt} {f : Addr} {oc : Value} {od an : Option Addr} {osl : Array (Option Value)} {kV doc pm cdv ct : Value} (X : K.In h) (G : h.Ns mainGlobals mg) (a : PySem.W.nsIn K mainGlobals x = some (some (.ref f)))
    (l : K.lookup f = some ⟨oc, od, .func (PySem.W.fnOf x x (defArgs st) (defBody st) (defScope st) .none kV doc pm an cdv ct), osl⟩) (c : PySem.W.codeIn K cdv x = true) (k : PySem.W.keepIn K (.ref f) = true) : Raw K mg x st :=
  ⟨f, _, fun_mk l c k, PySem.W.mg_of X G a⟩
end
section
variable {X : Cx}
theorem pe_df {x : Str} {k : Nat} {ps : List Str} {sp : Sp} {e : Expr} {es : List Expr} {t : TA} {p pos : Pos} (D : Df X.prog X.w X.K X.mg X.base x k ps sp) (hr : Room k X.A) (hg : Gl X x) (ha : PA X (e :: es) t)
    (hdb : (x == ("__debug__" : Str)) = false := by decide) (he : starEach (e :: es) X.env = (false, eval e X.env) :: starEach es X.env := by rfl) (hpl : (backTo pos (starEach es X.env)).any (·.1) = false := by rfl) :
    PE X (.Call (.Name x p) (e :: es) [] pos) (tCall sp [] E0 t) := by
  obtain ⟨f, fd, F, b, m, kp⟩ := D
  exact pe_call F hr hg m kp b .nil pass0 ha hdb he hpl
/-- a number of the text's top -/
def GI (mg : Str → Option Value) (x : Str) (i : Int) : Prop := ∃ t, mg x = some (Value.int i t)
theorem pe_gi {x : Str} {i : Int} {pos : Pos} (h : GI X.mg x i) (hg : Gl X x) (hd : (x == ("__debug__" : Str)) = false := by decide) : PE X (.Name x pos) (tC (.int i)) := by
  obtain ⟨t, h⟩ := h
  exact pe_glob hg h ⟨t, rfl⟩ hd
theorem gi_mk {K : PySem.W.Frag} {mg : Str → Option Value} {h : Heap} {x : Str} {i : Int} {t : Tok} (X : K.In h) (G : h.Ns mainGlobals mg) (a : PySem.W.nsIn K mainGlobals x = some (some (.int i t))) : GI mg x i := ⟨t, PySem.W.mg_of X G a⟩
/-- a tuple of numbers of the text's top -/
def GT (K : PySem.W.Frag) (mg : Str → Option Value) (x : Str) (xs : List Int) : Prop := ∃ a, mg x = some (Value.ref a) ∧ ∀ H : Hp, SqT K H a (xs.map V.int)
def tGt (K : PySem.W.Frag) (xs : List Int) : TE := fun _ H Q => ∀ a, (∀ H' : Hp, SqT K H' a (xs.map V.int)) → Q (.ref a) H
theorem pe_gt {x : Str} {xs : List Int} {pos : Pos} (h : GT X.K X.mg x xs) (hg : Gl X x) (hd : (x == ("__debug__" : Str)) = false := by decide) : PE X (.Name x pos) (tGt X.K xs) := by
  obtain ⟨a, h, ha⟩ := h
  intro pins s σ H Q I q
  exact ld_glob I hg h ⟨.ref a, H, I, rfl, q a ha⟩ hd
theorem gt_mk {K : PySem.W.Frag} {mg : Str → Option Value} {h : Heap} {x : Str} {xs : List Int} {a : Addr} {od : Option Addr} {its : Array Value} {n : Nat} {sl : Array (Option Value)} (X : K.In h) (G : h.Ns mainGlobals mg)
    (e : PySem.W.nsIn K mainGlobals x = some (some (.ref a))) (l : K.lookup a = some ⟨.type "tuple", od, .seq its n, sl⟩) (z : its.size ≤ sizeLine) (v : Vals (xs.map V.int) its.toList) : GT K mg x xs :=
  ⟨a, PySem.W.mg_of X G e, fun _ => .inr ⟨_, its, n, l, rfl, rfl, z, v⟩⟩
end
/-- ends -/
theorem qI {Q : VK} {H : Hp} {a b : Int} (k : Q (.int a) H) (e : b = a) : Q (.int b) H := by rw [e]; exact k
theorem qB {Q : VK} {H : Hp} {a b : Bool} (k : Q (.bl a) H) (e : b = a) : Q (.bl b) H := by rw [e]; exact k
theorem qS {Q : VK} {H : Hp} {a b : Str} (k : Q (.str a) H) (e : b = a) : Q (.str b) H := by rw [e]; exact k
theorem dT {p : Prop} [Decidable p] (h : decide p = true) : p := of_decide_eq_true h
theorem dF {p : Prop} [Decidable p] (h : ¬ decide p = true) : ¬ p := fun q => h (decide_eq_true q)
theorem nT {b : Bool} (h : (!b) = true) : b = false := by cases b with | true => cases h | false => rfl
theorem nF {b : Bool} (h : ¬ (!b) = true) : b = true := by cases b with | true => rfl | false => exact absurd rfl h
theorem bF {b : Bool} (h : ¬ b = true) : b = false := by cases b with | true => exact absurd rfl h | false => rfl
theorem vT {a b : Int} (h : decide (V.int a = V.int b) = true) : a = b := V.int.inj (of_decide_eq_true h)
theorem vF {a b : Int} (h : ¬ decide (V.int a = V.int b) = true) : a ≠ b := fun q => h (decide_eq_true (by rw [q]))
theorem vnT {a b : Int} (h : (!decide (V.int a = V.int b)) = true) : a ≠ b := fun q => by rw [q] at h; simp at h
theorem vnF {a b : Int} (h : ¬ (!decide (V.int a = V.int b)) = true) : a = b := vT (nF h)
/-- a place of a table of the text's top -/
theorem tab_at {xs : List Int} {m : Int} (h : 1 ≤ m) (h' : m ≤ (xs.length : Int)) : atI (xs.map V.int) (m - 1) = some (V.int (xs.getD (m - 1).toNat 0)) := by
  have e : m - 1 = (((m - 1).toNat : Nat) : Int) := by omega
  rw [e]
  refine atI_nat ?_
  have hj : (m - 1).toNat < xs.length := by omega
  rw [Int.toNat_natCast, List.getElem?_map, List.getElem?_eq_getElem hj, List.getD_eq_getElem?_getD, List.getElem?_eq_getElem hj]
  rfl
theorem no_of {p : Prop} (h : ¬ p) : (false = true ↔ p) := ⟨fun q => Bool.noConfusion q, fun q => absurd q h⟩
/-- a new object leaves what was there -/
theorem Same.put {H : Hp} {a : Addr} {o : HO} (h : H a = none) : Same H (upd H a o) := fun b u e => by
  rw [upd_ne (ne_of_none e h)]; exact e
theorem Same.put' {H H' : Hp} {a : Addr} {o : HO} (s : Same H H') (h : H a = none) : Same H (upd H' a o) := fun b u e => by
  rw [upd_ne (ne_of_none e h)]; exact s b u e
/-- promises: numbers in, a number or a truth value out, nothing made -/
def spI1 (C : Int → Prop) (f : Int → Int) : Sp := fun vs H Q _ => ∃ x, vs = [.int x] ∧ C x ∧ Q (.int (f x)) H
def spI2 (C : Int → Int → Prop) (f : Int → Int → Int) : Sp := fun vs H Q _ => ∃ x y, vs = [.int x, .int y] ∧ C x y ∧ Q (.int (f x y)) H
def spI3 (C : Int → Int → Int → Prop) (f : Int → Int → Int → Int) : Sp := fun vs H Q _ => ∃ x y z, vs = [.int x, .int y, .int z] ∧ C x y z ∧ Q (.int (f x y z)) H
def spB1 (f : Int → Bool) : Sp := fun vs H Q _ => ∃ x, vs = [.int x] ∧ Q (.bl (f x)) H
def isd (x : Int) : Bool := decide (-365961662 ≤ x ∧ x ≤ 364522971)
theorem ints_at {ns : List Int} {i : Nat} {x : V} (h : (ns.map V.int)[i]? = some x) : ∃ z, ns[i]? = some z ∧ x = V.int z := by
  rw [List.getElem?_map] at h
  cases e : ns[i]? with
  | none => rw [e] at h; cases h
  | some z => rw [e] at h; exact ⟨z, rfl, (Option.some.inj h).symm⟩
theorem take_snoc {α : Type} : ∀ {l : List α} {i : Nat} {x : α}, l[i]? = some x → l.take (i + 1) = l.take i ++ [x]
  | [], i, x, h => by simp at h
  | a :: l, 0, x, h => by
    have e : a = x := Option.some.inj h
    subst e
    rfl
  | a :: l, i + 1, x, h => by
    have ih := take_snoc (l := l) (i := i) (x := x) h
    show a :: l.take (i + 1) = a :: l.take i ++ [x]
    rw [ih]
    rfl
end Dr
set_option linter.all false
/-! Texts: lists of codes; numbers written with so many digits at least. -/
namespace Dr
open PySem PySem.Spec PyProof.Rows L2
/-- the text of these codes -/
def ofL (l : List Nat) : Str := ⟨l.toArray⟩
theorem ofL_len (l : List Nat) : (ofL l).length = l.length := by
  rw [TL.len_tl]; rfl
theorem ofL_app (a b : List Nat) : ofL a ++ ofL b = ofL (a ++ b) := by
  refine TL.ext_tl ?_
  rw [TL.tl_append]; rfl
theorem dash : ("-" : Str) = ofL [45] := by decide +kernel
theorem dashW : ("-W" : Str) = ofL [45, 87] := by decide +kernel
/-- a text's bytes as codes -/
def cN (t : Sw11.Bytes) : List Nat := t.map UInt8.toNat
theorem cN_app (a b : Sw11.Bytes) : cN (a ++ b) = cN a ++ cN b := by unfold cN; rw [List.map_append]
theorem cN_len (a : Sw11.Bytes) : (cN a).length = a.length := by unfold cN; rw [List.length_map]
/-- n with k digits at least -/
def dL (k n : Nat) : List Nat := List.replicate (k - (TL.numL n).length) 48 ++ TL.numL n
theorem dL_digits : ∀ (f k n : Nat), 0 < f → k ≤ f → n < 10 ^ f → cN (Sw11.digits f k n) = dL k n
  | 0, _, _, h, _, _ => by omega
  | f + 1, k, n, _, hk, hn => by
    rw [Sw11.digits]
    by_cases c : n < 10 ∧ k ≤ 1
    · rw [if_pos c]
      unfold dL
      rw [TL.numL_lt c.1]
      have e : k - [48 + n].length = 0 := by simp; omega
      rw [e]
      show [(Sw11.digit n).toNat] = [48 + n]
      rw [Cal.digit_nat, Nat.mod_eq_of_lt c.1]
    · rw [if_neg c, cN_app]
      have hf : 0 < f := by
        rcases (by omega : f = 0 ∨ 0 < f) with z | z
        · subst z
          simp at hn
          omega
        · exact z
      rw [dL_digits f (k - 1) (n / 10) hf (by omega) (by rw [Nat.pow_succ] at hn; omega)]
      have e1 : cN [Sw11.digit n] = [48 + n % 10] := by
        show [(Sw11.digit n).toNat] = _
        rw [Cal.digit_nat]
      rw [e1]
      unfold dL
      by_cases h : n < 10
      · have k2 : 2 ≤ k := by omega
        rw [show n / 10 = 0 by omega, TL.numL_lt h, TL.numL_lt (show 0 < 10 by decide), Nat.mod_eq_of_lt h]
        have e2 : k - [48 + n].length = (k - 1 - [48 + 0].length) + 1 := by simp; omega
        rw [e2, List.replicate_succ', List.append_assoc]
        first | done | rfl
      · rw [TL.numL_step (show 10 ≤ n by omega), List.length_append, List.append_assoc]
        have e2 : k - ((TL.numL (n / 10)).length + [48 + n % 10].length) = k - 1 - (TL.numL (n / 10)).length := by simp; omega
        rw [e2]
theorem dL_len {k n : Nat} (hk : k ≤ 7) (hn : n < 10 ^ 7) : (dL k n).length ≤ 7 := by
  have := TL.numL_len (k := 7) (by decide) hn
  unfold dL
  rw [List.length_append, List.length_replicate]
  omega
theorem numL_head (n : Nat) : ∃ c r, TL.numL n = c :: r ∧ c ≠ 43 ∧ c ≠ 45 := by
  cases e : TL.numL n with
  | nil => exact absurd e (TL.numL_ne n)
  | cons c r =>
    have h := TL.numL_digits n c (by rw [e]; exact List.mem_cons_self)
    exact ⟨c, r, rfl, by omega, by omega⟩
theorem str_num (n : Nat) : Str.ofString (toString ((n : Nat) : Int)) = ofL (TL.numL n) := by
  refine TL.ext_tl ?_
  rw [TL.tl_num]; rfl
theorem zfill_num (n k : Nat) : Txt.zfill (ofL (TL.numL n)) ((k : Nat) : Int) = ofL (dL k n) := by
  unfold Txt.zfill dL
  rw [ofL_len]
  by_cases c : ((k : Nat) : Int) ≤ (((TL.numL n).length : Nat) : Int)
  · rw [if_pos c, show k - (TL.numL n).length = 0 by omega]
    rfl
  · rw [if_neg c]
    obtain ⟨x, r, e, h1, h2⟩ := numL_head n
    unfold PySem.zfilled
    have e0 : (ofL (TL.numL n)).cps[0]? = some x := by
      rw [e]; rfl
    rw [e0]
    split
    · rename_i q; cases q; exact absurd rfl h1
    · rename_i q; cases q; exact absurd rfl h2
    · unfold PySem.Builtin.Str.padded
      refine TL.ext_tl ?_
      show (Array.replicate (((k : Nat) : Int).toNat - (TL.numL n).length) 48 ++ (TL.numL n).toArray ++ Array.replicate 0 48).toList = List.replicate (k - (TL.numL n).length) 48 ++ TL.numL n
      simp
theorem log_small {n : Nat} (h : n < 10 ^ 7) : (((n : Nat) : Int)).natAbs.log2 < 1920 := by
  rw [Int.natAbs_natCast]
  rcases (by omega : n = 0 ∨ n ≠ 0) with z | z
  · subst z; decide
  · have : n.log2 < 24 := (Nat.log2_lt z).mpr (Nat.lt_of_lt_of_le h (by decide))
    omega
section
variable {X : Cx}
theorem mt_zfill : MtR X "str.zfill" (fun x xs H Q => ∃ a i, x = .str a ∧ xs = [.int i] ∧ PadOk i = true ∧ Q (.str (Txt.zfill a i)) H) := by
  intro pins s σ H x xs v us Q I rx rs h
  obtain ⟨a, i, rfl, rfl, hp, q⟩ := h
  obtain ⟨t, rfl⟩ := rx
  cases rs with
  | cons r1 rs =>
    cases rs
    obtain ⟨u, rfl⟩ := r1
    exact PySem.SC.zfill hp fun t' k => ⟨.str _, H, I.tok k, ⟨_, rfl⟩, q⟩
end
/-- a comprehension over a text's signs -/
theorem lc_str {x : Str} {g : TG} {tt : TT} {te : TE} {vs : List Nat} {σ : L2.St} {H1 : Hp} {D : Addr} {Qd : Hp → Prop} (Pv : Nat → Hp → Prop) (h0 : Pv 0 (upd H1 D (.lst [])))
    (hs : ∀ i c H, x.cps[i]? = some c → Pv i H → g (.str ⟨#[c]⟩) (wipe σ vs) H fun σ2 H2 => wipe σ2 vs = wipe σ vs ∧ tt σ2 H2 fun b H3 =>
      if b = true then te σ2 H3 fun y H4 => ∃ acc, H4 D = some (.lst acc) ∧ acc.length < sizeLine ∧ Pv (i + 1) (upd H4 D (.lst (acc ++ [y]))) else Pv (i + 1) H3) (hd : ∀ H, Pv x.cps.size H → Qd H) :
    ∃ W : Nat → Nat → Hp → Prop, (∃ m, W 0 m (upd H1 D (.lst []))) ∧ ∀ i m H, W i m H →
      ((Its x).stop i H ∧ Qd H) ∨ ((Its x).go i H ∧ ∃ Nx : Hp → Prop, (∀ H', Nx H' → ∃ m', m' < m ∧ W (i + 1) m' H') ∧ ∀ v H', (Its x).yld i H v H' → g v (wipe σ vs) H' fun σ2 H2 => wipe σ2 vs = wipe σ vs ∧ tt σ2 H2 fun b H3 =>
        if b = true then te σ2 H3 fun y H4 => ∃ acc, H4 D = some (.lst acc) ∧ acc.length < sizeLine ∧ Nx (upd H4 D (.lst (acc ++ [y]))) else Nx H3) := by
  refine ⟨fun i m H => m = x.cps.size - i ∧ i ≤ x.cps.size ∧ Pv i H, ⟨x.cps.size, by simp, Nat.zero_le _, h0⟩, ?_⟩
  rintro i m H ⟨rfl, hi, p⟩
  by_cases hlt : i < x.cps.size
  · refine .inr ⟨hlt, Pv (i + 1), fun H' p' => ⟨x.cps.size - (i + 1), by omega, rfl, hlt, p'⟩, fun v H' y => ?_⟩
    obtain ⟨e, c, hc, ev⟩ := y
    subst e ev
    exact hs i c _ hc p
  · have e : i = x.cps.size := by omega
    subst e
    exact .inl ⟨Nat.le_refl _, hd H p⟩
end Dr
namespace Dr
open PySem PySem.Spec PyProof.Rows L2
theorem len_app (x y : Str) : (x ++ y).length = x.length + y.length := by
  rw [TL.len_tl, TL.len_tl, TL.len_tl, TL.tl_append, List.length_append]
theorem len_dash : ("-" : Str).length = 1 := by decide +kernel
theorem len_dashW : ("-W" : Str).length = 2 := by decide +kernel
theorem yt_len {y : Int} (h : y.natAbs < 10 ^ 7) : (ofL (cN (Sw11.yearText y))).length ≤ 8 := by
  rw [ofL_len, cN_len]
  unfold Sw11.yearText
  have := Cal.digits_year_len (n := y.natAbs) h
  rw [List.length_append]
  split <;> simp <;> omega
theorem d_len {k n : Nat} (hk : k ≤ 7) (hn : n < 10 ^ 7) : (ofL (dL k n)).length ≤ 7 := by rw [ofL_len]; exact dL_len hk hn
theorem yt_codes (y : Int) (h : y.natAbs < 10 ^ 7) : cN (Sw11.yearText y) = (if y < 0 then [45] else []) ++ dL 4 y.natAbs := by
  unfold Sw11.yearText
  rw [cN_app, dL_digits 12 4 y.natAbs (by decide) (by decide) (Nat.lt_trans h (by decide))]
  congr 1
  split <;> rfl
theorem civil_small (n : Int) : (Sw11.dayCivil n).m ≤ 12 ∧ (Sw11.dayCivil n).d ≤ 31 := by
  have r := Cal.dayCivil_right n
  have md := Cal.monthDays_in (Sw11.dayCivil n).y (Sw11.dayCivil n).m
  omega
theorem codes0 (n : Int) : cN (Sw11.textOf 0 n) = cN (Sw11.yearText (Sw11.dayCivil n).y) ++ [45] ++ dL 2 (Sw11.dayCivil n).m ++ [45] ++ dL 2 (Sw11.dayCivil n).d := by
  have r := civil_small n
  unfold Sw11.textOf
  simp only
  rw [if_pos trivial, cN_app, List.append_assoc, List.append_assoc, List.append_assoc]
  congr 1
  show 45 :: cN (Sw11.digits 4 2 (Sw11.dayCivil n).m ++ 45 :: Sw11.digits 4 2 (Sw11.dayCivil n).d) = _
  rw [cN_app, dL_digits 4 2 _ (by decide) (by decide) (by omega)]
  show 45 :: (dL 2 (Sw11.dayCivil n).m ++ 45 :: cN (Sw11.digits 4 2 (Sw11.dayCivil n).d)) = _
  rw [dL_digits 4 2 _ (by decide) (by decide) (by omega)]
  rfl
theorem codes1 (n : Int) : cN (Sw11.textOf 1 n) = cN (Sw11.yearText (Cal.wyof n)) ++ [45, 87] ++ dL 2 (Sw11.dayWeek n).2.1 ++ [45] ++ TL.numL (Sw11.dayWeek n).2.2 := by
  have r := Cal.week_near n
  unfold Sw11.textOf
  simp only
  rw [if_neg (by omega), if_pos trivial, cN_app, List.append_assoc, List.append_assoc, List.append_assoc]
  congr 1
  show 45 :: 87 :: cN (Sw11.digits 4 2 (Sw11.dayWeek n).2.1 ++ 45 :: Sw11.digits 4 1 (Sw11.dayWeek n).2.2) = _
  rw [cN_app, dL_digits 4 2 _ (by decide) (by decide) (by omega)]
  show 45 :: 87 :: (dL 2 (Sw11.dayWeek n).2.1 ++ 45 :: cN (Sw11.digits 4 1 (Sw11.dayWeek n).2.2)) = _
  rw [dL_digits 4 1 _ (by decide) (by decide) (by omega)]
  have e : dL 1 (Sw11.dayWeek n).2.2 = TL.numL (Sw11.dayWeek n).2.2 := by
    unfold dL
    rw [TL.numL_lt (by omega)]
    rfl
  rw [e]
  rfl
theorem codes2 (n : Int) : cN (Sw11.textOf 2 n) = cN (Sw11.yearText (Sw11.dayCivil n).y) ++ [45] ++ dL 3 (Sw11.before (Sw11.dayCivil n).y (Sw11.dayCivil n).m + (Sw11.dayCivil n).d) := by
  have r := Cal.yday_near n
  unfold Sw11.textOf
  simp only
  rw [if_neg (by omega), if_neg (by omega), cN_app, List.append_assoc]
  congr 1
  show 45 :: cN (Sw11.digits 6 3 (Sw11.before (Sw11.dayCivil n).y (Sw11.dayCivil n).m + (Sw11.dayCivil n).d)) = _
  rw [dL_digits 6 3 _ (by decide) (by decide) (by omega)]
  rfl
theorem isd_iff {n : Int} : isd n = true ↔ Sw11.isDay n = true := by
  unfold isd
  rw [Cal.isDay_iff, decide_eq_true_eq]
theorem codes_len {n : Int} {f : Nat} (hf : f ≤ 2) (h : isd n = true) : (cN (Sw11.textOf f n)).length ≤ 32 := by
  have hd := isd_iff.mp h
  have y := Cal.year_near hd
  have w := Cal.wyear_near hd
  have c := civil_small n
  have k := Cal.week_near n
  have yd := Cal.yday_near n
  rcases (by omega : f = 0 ∨ f = 1 ∨ f = 2) with e | e | e <;> subst e
  · have a := yt_len (y := (Sw11.dayCivil n).y) (by omega)
    have b := d_len (k := 2) (n := (Sw11.dayCivil n).m) (by decide) (by omega)
    have b' := d_len (k := 2) (n := (Sw11.dayCivil n).d) (by decide) (by omega)
    rw [ofL_len] at a b b'
    rw [codes0]
    simp only [List.length_append, List.length_cons, List.length_nil]
    omega
  · have a := yt_len (y := Cal.wyof n) (by unfold Cal.wyof; omega)
    have b := d_len (k := 2) (n := (Sw11.dayWeek n).2.1) (by decide) (by omega)
    have b' := TL.numL_len (n := (Sw11.dayWeek n).2.2) (k := 1) (by decide) (by omega)
    rw [ofL_len] at a b
    rw [codes1]
    simp only [List.length_append, List.length_cons, List.length_nil]
    omega
  · have a := yt_len (y := (Sw11.dayCivil n).y) (by omega)
    have b := d_len (k := 3) (n := Sw11.before (Sw11.dayCivil n).y (Sw11.dayCivil n).m + (Sw11.dayCivil n).d) (by decide) (by omega)
    rw [ofL_len] at a b
    rw [codes2]
    simp only [List.length_append, List.length_cons, List.length_nil]
    omega
/-- the codes as whole numbers -/
def cI (l : List Nat) : List Int := l.map fun (c : Nat) => (c : Int)
theorem cI_codes (t : Sw11.Bytes) : cI (cN t) = Cal.codes t := by
  unfold cI cN Cal.codes
  rw [List.map_map]
  rfl
end Dr
set_option maxRecDepth 100000
set_option maxHeartbeats 4000000
namespace Dr
open PySem PySem.Spec PyProof.Rows L2
open PySem.W (Codec)
/-! ### the text by places -/
def top (i : Nat) : Stmt := PySem.Challenge.pw_dayround_s09_read.main.body.getD i (.Pass ⟨0, 0, 0, 0⟩)
abbrev s_is_long : Stmt := top 9
abbrev s_is_day : Stmt := top 10
abbrev s_first_of_year : Stmt := top 11
abbrev s_first_of_month : Stmt := top 12
abbrev s_year_of : Stmt := top 13
abbrev s_month_of : Stmt := top 14
abbrev s_number_of_month : Stmt := top 17
abbrev s_first_of_numbered : Stmt := top 18
abbrev s_days_into_month : Stmt := top 19
abbrev s_day_of_week : Stmt := top 22
abbrev s_first_of_week : Stmt := top 23
abbrev s_first_of_week_1 : Stmt := top 24
abbrev s_year_of_week : Stmt := top 25
abbrev s_week_of_year : Stmt := top 26
abbrev s_day_of_week_date : Stmt := top 27
abbrev s_is_number_of_signs : Stmt := top 33
abbrev s_digits_of : Stmt := top 34
abbrev s_year_text : Stmt := top 35
abbrev s_text_by_month : Stmt := top 36
abbrev s_text_by_week : Stmt := top 37
abbrev s_text_by_year : Stmt := top 38
abbrev s_text_of : Stmt := top 39
abbrev s_signs_of : Stmt := top 40
abbrev s_number_told : Stmt := top 44
abbrev s_year_told : Stmt := top 45
abbrev s_told_by_month : Stmt := top 46
abbrev s_told_by_week : Stmt := top 47
abbrev s_told_by_year : Stmt := top 48
abbrev s_day_told : Stmt := top 49
abbrev s_is_written : Stmt := top 50
abbrev s_read : Stmt := top 55
structure Txt (K : PySem.W.Frag) (mg : Str → Option Value) : Prop where
  g_FIRST : GI mg "FIRST" (-365961662)
  g_LAST : GI mg "LAST" 364522971
  g_DAYS_BEFORE_MONTH : GT K mg "DAYS_BEFORE_MONTH" [0, 31, 59, 90, 120, 151, 181, 212, 243, 273, 304, 334]
  g_DAYS_IN_YEAR : GI mg "DAYS_IN_YEAR" 365
  g_DAYS_IN_4_YEARS : GI mg "DAYS_IN_4_YEARS" 1461
  g_DAYS_IN_100_YEARS : GI mg "DAYS_IN_100_YEARS" 36524
  g_DAYS_IN_400_YEARS : GI mg "DAYS_IN_400_YEARS" 146097
  g_FIRST_OF_YEAR_1 : GI mg "FIRST_OF_YEAR_1" (-719162)
  g_MONTHS_IN_YEAR : GI mg "MONTHS_IN_YEAR" 12
  g_DAYS_IN_WEEK : GI mg "DAYS_IN_WEEK" 7
  g_MOST_SIGNS : GI mg "MOST_SIGNS" 32
  g_BY_MONTH : GI mg "BY_MONTH" 0
  g_BY_WEEK : GI mg "BY_WEEK" 1
  g_BY_YEAR : GI mg "BY_YEAR" 2
  g_MINUS : GI mg "MINUS" 45
  g_DIGIT_0 : GI mg "DIGIT_0" 48
  g_DONE : GI mg "DONE" 0
  g_NO_SUCH_DAY : GI mg "NO_SUCH_DAY" (-1)
  g_OUT_OF_RANGE : GI mg "OUT_OF_RANGE" (-2)
  b_abs : mg "abs" = none
  b_len : mg "len" = none
  b_min : mg "min" = none
  b_ord : mg "ord" = none
  b_str : mg "str" = none
  f_is_long : Raw K mg "is_long" s_is_long
  f_is_day : Raw K mg "is_day" s_is_day
  f_first_of_year : Raw K mg "first_of_year" s_first_of_year
  f_first_of_month : Raw K mg "first_of_month" s_first_of_month
  f_year_of : Raw K mg "year_of" s_year_of
  f_month_of : Raw K mg "month_of" s_month_of
  f_number_of_month : Raw K mg "number_of_month" s_number_of_month
  f_first_of_numbered : Raw K mg "first_of_numbered" s_first_of_numbered
  f_days_into_month : Raw K mg "days_into_month" s_days_into_month
  f_day_of_week : Raw K mg "day_of_week" s_day_of_week
  f_first_of_week : Raw K mg "first_of_week" s_first_of_week
  f_first_of_week_1 : Raw K mg "first_of_week_1" s_first_of_week_1
  f_year_of_week : Raw K mg "year_of_week" s_year_of_week
  f_week_of_year : Raw K mg "week_of_year" s_week_of_year
  f_day_of_week_date : Raw K mg "day_of_week_date" s_day_of_week_date
  f_is_number_of_signs : Raw K mg "is_number_of_signs" s_is_number_of_signs
  f_digits_of : Raw K mg "digits_of" s_digits_of
  f_year_text : Raw K mg "year_text" s_year_text
  f_text_by_month : Raw K mg "text_by_month" s_text_by_month
  f_text_by_week : Raw K mg "text_by_week" s_text_by_week
  f_text_by_year : Raw K mg "text_by_year" s_text_by_year
  f_text_of : Raw K mg "text_of" s_text_of
  f_signs_of : Raw K mg "signs_of" s_signs_of
  f_number_told : Raw K mg "number_told" s_number_told
  f_year_told : Raw K mg "year_told" s_year_told
  f_told_by_month : Raw K mg "told_by_month" s_told_by_month
  f_told_by_week : Raw K mg "told_by_week" s_told_by_week
  f_told_by_year : Raw K mg "told_by_year" s_told_by_year
  f_day_told : Raw K mg "day_told" s_day_told
  f_is_written : Raw K mg "is_written" s_is_written
  f_read : Raw K mg "read" s_read
section
variable {P : Program} {w : World} {K : PySem.W.Frag} {mg : Str → Option Value} {base : Heap}
theorem sc_is_long : FnScope ["year"] ["year"] (defScope s_is_long) := ⟨rfl, rfl, rfl, by decide +kernel, rfl, by decide +kernel, by decide +kernel⟩
theorem bd_is_long : Bd "is_long" s_is_long ["year"] := fun _ _ _ _ _ _ us hl => match us, hl with | [_], _ => rfl
theorem ok_is_long (T : Txt K mg) : Df P w K mg base "is_long" 1 ["year"] (spB1 Sw11.long) := by
  refine T.f_is_long.df sc_is_long bd_is_long (fun vs H Q E h => ?_) (fun f cdv A outer s H vs Q E hr h => ?_)
  · obtain ⟨y, rfl, k⟩ := h
    rfl
  · obtain ⟨y, rfl, k⟩ := h
    refine ⟨_, (pss_one (ps_ret (pe_and (pe_cmpR op_eq (pe_op op_mod (pv 0) pe_int) pe_int (nomark _)) (pe_one (pe_or (pe_cmpR op_ne (pe_op op_mod (pv 0) pe_int) pe_int (nomark _)) (pe_one (pe_cmpR op_eq (pe_op op_mod (pv 0) pe_int) pe_int (nomark _)))))))), ?_⟩
    refine ⟨_, rfl, _, _, rfl, rfl, (by show (0 : Int) < 4; decide), rfl, _, rfl, ite2 (fun c => ?_) (fun c => ?_)⟩
    · have c := vT c
      refine ⟨_, rfl, _, _, rfl, rfl, (by show (0 : Int) < 100; decide), rfl, _, rfl, ite2 (fun c2 => ?_) (fun c2 => ?_)⟩
      · have c2 := vnT c2
        refine qB k ?_
        symm
        rw [Cal.long_iff]
        omega
      · have c2 := vnF c2
        refine ⟨_, rfl, _, _, rfl, rfl, (by show (0 : Int) < 400; decide), rfl, qB k ?_⟩
        rw [Bool.eq_iff_iff, Cal.long_iff, decide_eq_true_eq, V.int.injEq]
        omega
    · have c := vF c
      refine qB k ?_
      symm
      rw [Bool.eq_false_iff, ne_eq, Cal.long_iff]
      omega
theorem sc_is_day : FnScope ["day"] ["day"] (defScope s_is_day) := ⟨rfl, rfl, rfl, by decide +kernel, rfl, by decide +kernel, by decide +kernel⟩
theorem bd_is_day : Bd "is_day" s_is_day ["day"] := fun _ _ _ _ _ _ us hl => match us, hl with | [_], _ => rfl
theorem ok_is_day (T : Txt K mg) : Df P w K mg base "is_day" 1 ["day"] (spB1 isd) := by
  refine T.f_is_day.df sc_is_day bd_is_day (fun vs H Q E h => ?_) (fun f cdv A outer s H vs Q E hr h => ?_)
  · obtain ⟨x, rfl, k⟩ := h
    rfl
  · obtain ⟨x, rfl, k⟩ := h
    refine ⟨_, (pss_one (ps_ret (pe_and (pe_cmpR op_ge (pv 0) (pe_gi T.g_FIRST rfl) (nomark _)) (pe_one (pe_cmpR op_le (pv 0) (pe_gi T.g_LAST rfl) (nomark _)))))), ?_⟩
    refine ⟨_, rfl, _, _, rfl, rfl, _, rfl, ite2 (fun c => ?_) (fun c => ?_)⟩
    · refine ⟨_, rfl, _, _, rfl, rfl, qB k ?_⟩
      have c := dT c
      unfold isd
      rw [decide_eq_decide]
      omega
    · have c := dF c
      refine qB k ?_
      unfold isd
      symm
      rw [decide_eq_false_iff_not]
      omega
theorem sc_first_of_year : FnScope ["year", "years", "long_years"] ["year"] (defScope s_first_of_year) := ⟨rfl, rfl, rfl, by decide +kernel, rfl, by decide +kernel, by decide +kernel⟩
theorem bd_first_of_year : Bd "first_of_year" s_first_of_year ["year"] := fun _ _ _ _ _ _ us hl => match us, hl with | [_], _ => rfl
theorem ok_first_of_year (T : Txt K mg) : Df P w K mg base "first_of_year" 1 ["year"] (spI1 (fun _ => True) Cal.foy) := by
  refine T.f_first_of_year.df sc_first_of_year bd_first_of_year (fun vs H Q E h => ?_) (fun f cdv A outer s H vs Q E hr h => ?_)
  · obtain ⟨y, rfl, _, k⟩ := h
    rfl
  · obtain ⟨y, rfl, _, k⟩ := h
    refine ⟨_, (pss_cons (ps_set (i := 1) sc_first_of_year.nd rfl (Or.inl rfl) (pe_op op_sub (pv 0) pe_int))
      (pss_cons (ps_set (i := 2) sc_first_of_year.nd rfl (Or.inl rfl) (pe_op op_add (pe_op op_sub (pe_op op_fdiv (pv 1) pe_int) (pe_op op_fdiv (pv 1) pe_int)) (pe_op op_fdiv (pv 1) pe_int)))
      (pss_one (ps_ret (pe_op op_add (pe_op op_add (pe_gi T.g_FIRST_OF_YEAR_1 rfl) (pe_op op_mul (pv 1) (pe_gi T.g_DAYS_IN_YEAR rfl))) (pv 2)))))), ?_⟩
    refine ⟨_, rfl, _, _, rfl, rfl, ?_⟩
    refine ⟨_, rfl, _, _, rfl, rfl, ⟨by decide, by decide⟩, _, rfl, _, _, rfl, rfl, ⟨by decide, by decide⟩, _, _, rfl, rfl, _, rfl, _, _, rfl, rfl, ⟨by decide, by decide⟩, _, _, rfl, rfl, ?_⟩
    refine ⟨_, rfl, _, _, rfl, rfl, .inr ⟨by decide, by decide⟩, _, _, rfl, rfl, _, rfl, _, _, rfl, rfl, qI k ?_⟩
    rw [Cal.foy, Cal.ys]
    omega
theorem sc_first_of_month : FnScope ["year", "month", "first"] ["year", "month"] (defScope s_first_of_month) := ⟨rfl, rfl, rfl, by decide +kernel, rfl, by decide +kernel, by decide +kernel⟩
theorem bd_first_of_month : Bd "first_of_month" s_first_of_month ["year", "month"] := fun _ _ _ _ _ _ us hl => match us, hl with | [_, _], _ => rfl
theorem ok_first_of_month (T : Txt K mg) : Df P w K mg base "first_of_month" 2 ["year", "month"] (spI2 (fun _ m => 1 ≤ m ∧ m ≤ 12) Cal.fom) := by
  have D_first_of_year := ok_first_of_year (P := P) (w := w) (base := base) T
  have D_is_long := ok_is_long (P := P) (w := w) (base := base) T
  refine T.f_first_of_month.df sc_first_of_month bd_first_of_month (fun vs H Q E h => ?_) (fun f cdv A outer s H vs Q E hr h => ?_)
  · obtain ⟨y, m, rfl, hm, k⟩ := h
    rfl
  · obtain ⟨y, m, rfl, hm, k⟩ := h
    refine ⟨_, (pss_cons (ps_set (i := 2) sc_first_of_month.nd rfl (Or.inl rfl) (pe_op op_add (pe_df D_first_of_year (hr.mono (by decide)) rfl (pa_cons (pv 0) pa_nil)) (pe_ix ix_tup (pe_gt T.g_DAYS_BEFORE_MONTH rfl) (pe_op op_sub (pv 1) pe_int) (fun _ _ => rfl))))
      (pss_cons (ps_if (PW.pt (pw_and (pt_cmpR op_gt (pv 1) pe_int (nomark _)) (pw_and1 (pt_val (pe_df D_is_long (hr.mono (by decide)) rfl (pa_cons (pv 0) pa_nil)))))) (pss_one (ps_ret (pe_op op_add (pv 2) pe_int))) pss_nil)
      (pss_one (ps_ret (pv 2))))), ?_⟩
    refine ⟨_, rfl, _, rfl, trivial, fun ta ht => ⟨_, rfl, _, _, rfl, rfl, ta, _, _, _, rfl, rfl, ht _, tab_at hm.1 hm.2, _, _, rfl, rfl, ?_⟩⟩
    refine ⟨_, rfl, _, _, rfl, rfl, _, rfl, ite2 (fun c => ?_) (fun c => ?_)⟩
    · have c := dT c
      refine ⟨_, rfl, _, rfl, _, rfl, ite2 (fun c2 => ?_) (fun c2 => ?_)⟩
      · exact ⟨_, rfl, _, _, rfl, rfl, qI k (Cal.fom_long (by omega) hm.2 c2)⟩
      · exact ⟨_, rfl, qI k (Cal.fom_plain hm.1 hm.2 (bF c2))⟩
    · have c := dF c
      exact iteF ⟨_, rfl, qI k (Cal.fom_short hm.1 (by omega))⟩
theorem yof_tree2 (n : Int) : (1 + (n - -719162) / 146097 * 400 + (if 3 < (n - -719162) % 146097 / 36524 then 3 else (n - -719162) % 146097 / 36524) * 100 +
      ((n - -719162) % 146097 - (if 3 < (n - -719162) % 146097 / 36524 then 3 else (n - -719162) % 146097 / 36524) * 36524) / 1461 * 4 +
    if 3 < ((n - -719162) % 146097 - (if 3 < (n - -719162) % 146097 / 36524 then 3 else (n - -719162) % 146097 / 36524) * 36524) % 1461 / 365 then 3
    else ((n - -719162) % 146097 - (if 3 < (n - -719162) % 146097 / 36524 then 3 else (n - -719162) % 146097 / 36524) * 36524) % 1461 / 365) = Cal.yof n := by
  refine Cal.yof_is (r := (n - -719162) % 146097) (by omega) (by omega) (by omega) ?_ rfl ?_
  · split
    · exact Or.inr ⟨rfl, by omega⟩
    · exact Or.inl ⟨rfl, by omega⟩
  · generalize ((n - -719162) % 146097 - (if 3 < (n - -719162) % 146097 / 36524 then 3 else (n - -719162) % 146097 / 36524) * 36524) % 1461 / 365 = g
    split
    · exact Or.inr ⟨rfl, by omega⟩
    · exact Or.inl ⟨rfl, by omega⟩
theorem sc_year_of : FnScope ["day", "since", "in_span", "century", "in_century", "year", "spans", "fours"] ["day"] (defScope s_year_of) := ⟨rfl, rfl, rfl, by decide +kernel, rfl, by decide +kernel, by decide +kernel⟩
theorem bd_year_of : Bd "year_of" s_year_of ["day"] := fun _ _ _ _ _ _ us hl => match us, hl with | [_], _ => rfl
theorem ok_year_of (T : Txt K mg) : Df P w K mg base "year_of" 1 ["day"] (spI1 (fun _ => True) Cal.yof) := by
  refine T.f_year_of.df sc_year_of bd_year_of (fun vs H Q E h => ?_) (fun f cdv A outer s H vs Q E hr h => ?_)
  · obtain ⟨n, rfl, _, k⟩ := h
    rfl
  · obtain ⟨n, rfl, _, k⟩ := h
    refine ⟨_, (pss_cons (ps_set (i := 1) sc_year_of.nd rfl (Or.inl rfl) (pe_op op_sub (pv 0) (pe_gi T.g_FIRST_OF_YEAR_1 rfl)))
      (pss_cons (ps_set (i := 2) sc_year_of.nd rfl (Or.inl rfl) (pe_op op_mod (pv 1) (pe_gi T.g_DAYS_IN_400_YEARS rfl)))
      (pss_cons (ps_set (i := 3) sc_year_of.nd rfl (Or.inl rfl) (pe_callB (call_min2 rfl) rfl T.b_min boot_min (pa_cons (pe_op op_fdiv (pv 2) (pe_gi T.g_DAYS_IN_100_YEARS rfl)) (pa_cons pe_int pa_nil))))
      (pss_cons (ps_set (i := 4) sc_year_of.nd rfl (Or.inl rfl) (pe_op op_sub (pv 2) (pe_op op_mul (pv 3) (pe_gi T.g_DAYS_IN_100_YEARS rfl))))
      (pss_cons (ps_set (i := 5) sc_year_of.nd rfl (Or.inl rfl) (pe_callB (call_min2 rfl) rfl T.b_min boot_min (pa_cons (pe_op op_fdiv (pe_op op_mod (pv 4) (pe_gi T.g_DAYS_IN_4_YEARS rfl)) (pe_gi T.g_DAYS_IN_YEAR rfl)) (pa_cons pe_int pa_nil))))
      (pss_cons (ps_set (i := 6) sc_year_of.nd rfl (Or.inl rfl) (pe_op op_fdiv (pv 1) (pe_gi T.g_DAYS_IN_400_YEARS rfl)))
      (pss_cons (ps_set (i := 7) sc_year_of.nd rfl (Or.inl rfl) (pe_op op_fdiv (pv 4) (pe_gi T.g_DAYS_IN_4_YEARS rfl)))
      (pss_one (ps_ret (pe_op op_add (pe_op op_add (pe_op op_add (pe_op op_add pe_int (pe_op op_mul (pv 6) pe_int)) (pe_op op_mul (pv 3) pe_int)) (pe_op op_mul (pv 7) pe_int)) (pv 5))))))))))), ?_⟩
    refine ⟨_, rfl, _, _, rfl, rfl, ?_⟩
    refine ⟨_, rfl, _, _, rfl, rfl, (by show (0 : Int) < 146097; decide), ?_⟩
    refine ⟨_, rfl, _, _, rfl, rfl, ⟨by decide, by decide⟩, _, _, rfl, ?_⟩
    refine ⟨_, rfl, _, rfl, _, _, rfl, rfl, .inr ⟨by decide, by decide⟩, _, _, rfl, rfl, ?_⟩
    refine ⟨_, rfl, _, _, rfl, rfl, (by show (0 : Int) < 1461; decide), _, _, rfl, rfl, ⟨by decide, by decide⟩, _, _, rfl, ?_⟩
    refine ⟨_, rfl, _, _, rfl, rfl, ⟨by decide, by decide⟩, ?_⟩
    refine ⟨_, rfl, _, _, rfl, rfl, ⟨by decide, by decide⟩, ?_⟩
    refine ⟨_, rfl, _, _, rfl, rfl, .inr ⟨by decide, by decide⟩, _, _, rfl, rfl, _, rfl, _, _, rfl, rfl, .inr ⟨by decide, by decide⟩, _, _, rfl, rfl, _, rfl, _, _, rfl, rfl, .inr ⟨by decide, by decide⟩, _, _, rfl, rfl, _, rfl, _, _, rfl, rfl, qI k ?_⟩
    exact yof_tree2 n
theorem sc_month_of : FnScope ["year", "day", "month"] ["year", "day"] (defScope s_month_of) := ⟨rfl, rfl, rfl, by decide +kernel, rfl, by decide +kernel, by decide +kernel⟩
theorem bd_month_of : Bd "month_of" s_month_of ["year", "day"] := fun _ _ _ _ _ _ us hl => match us, hl with | [_, _], _ => rfl
theorem ok_month_of (T : Txt K mg) : Df P w K mg base "month_of" 3 ["year", "day"] (spI2 (fun y n => y = Cal.yof n) Cal.moy) := by
  have D_first_of_month := ok_first_of_month (P := P) (w := w) (base := base) T
  refine T.f_month_of.df sc_month_of bd_month_of (fun vs H Q E h => ?_) (fun f cdv A outer s H vs Q E hr h => ?_)
  · obtain ⟨y, n, rfl, e, k⟩ := h
    rfl
  · obtain ⟨y, n, rfl, e, k⟩ := h
    refine ⟨_, (pss_cons (ps_set (i := 2) sc_month_of.nd rfl (Or.inl rfl) pe_int)
      (pss_cons (ps_while PassesOwn.never (pt_cmpR op_gt (pe_df D_first_of_month (hr.mono (by decide)) rfl (pa_cons (pv 0) (pa_cons (pv 2) pa_nil))) (pv 1) (nomark _)) (pss_one (ps_set (i := 2) sc_month_of.nd rfl (Or.inl rfl) (pe_op op_sub (pv 2) pe_int))))
      (pss_one (ps_ret (pv 2))))), ?_⟩
    refine ⟨fun m σ H' => ∃ mo : Int, σ = [some (.int y), some (.int n), some (.int mo)] ∧ (1 ≤ mo ∧ mo ≤ 12 ∧ n < Cal.fom y (mo + 1)) ∧ m = mo.toNat ∧ H' = H, ⟨_, _, rfl, Cal.moy_start e, rfl, rfl⟩, ?_⟩
    rintro m σ H' ⟨mo, rfl, h1, rfl, rfl⟩
    refine ⟨_, rfl, _, rfl, _, _, rfl, ⟨h1.1, h1.2.1⟩, _, rfl, _, _, rfl, rfl, _, rfl, ite2 (fun c => ?_) (fun c => ?_)⟩
    · have c := dT c
      have t := Cal.moy_turn e h1.1 h1.2.1 c
      exact ⟨fun σ' H'' => ∃ m', m' < mo.toNat ∧ ∃ mo : Int, σ' = [some (.int y), some (.int n), some (.int mo)] ∧ (1 ≤ mo ∧ mo ≤ 12 ∧ n < Cal.fom y (mo + 1)) ∧ m' = mo.toNat ∧ H'' = H', fun _ _ z => z, ⟨_, rfl, _, _, rfl, rfl, _, (by omega), _, rfl, t, rfl, rfl⟩⟩
    · have c := dF c
      exact ⟨_, rfl, qI k (Cal.moy_end e h1.1 h1.2.1 h1.2.2 c)⟩
theorem sc_number_of_month : FnScope ["day", "year"] ["day"] (defScope s_number_of_month) := ⟨rfl, rfl, rfl, by decide +kernel, rfl, by decide +kernel, by decide +kernel⟩
theorem bd_number_of_month : Bd "number_of_month" s_number_of_month ["day"] := fun _ _ _ _ _ _ us hl => match us, hl with | [_], _ => rfl
theorem ok_number_of_month (T : Txt K mg) : Df P w K mg base "number_of_month" 4 ["day"] (spI1 (fun _ => True) Cal.mz) := by
  have D_month_of := ok_month_of (P := P) (w := w) (base := base) T
  have D_year_of := ok_year_of (P := P) (w := w) (base := base) T
  refine T.f_number_of_month.df sc_number_of_month bd_number_of_month (fun vs H Q E h => ?_) (fun f cdv A outer s H vs Q E hr h => ?_)
  · obtain ⟨n, rfl, _, k⟩ := h
    rfl
  · obtain ⟨n, rfl, _, k⟩ := h
    refine ⟨_, (pss_cons (ps_set (i := 1) sc_number_of_month.nd rfl (Or.inl rfl) (pe_df D_year_of (hr.mono (by decide)) rfl (pa_cons (pv 0) pa_nil)))
      (pss_one (ps_ret (pe_op op_sub (pe_op op_add (pe_op op_mul (pv 1) (pe_gi T.g_MONTHS_IN_YEAR rfl)) (pe_df D_month_of (hr.mono (by decide)) rfl (pa_cons (pv 1) (pa_cons (pv 0) pa_nil)))) pe_int)))), ?_⟩
    refine ⟨_, rfl, _, rfl, trivial, ?_⟩
    exact ⟨_, rfl, _, _, rfl, rfl, .inr ⟨by decide, by decide⟩, _, rfl, _, rfl, _, _, rfl, rfl, _, _, rfl, rfl, _, _, rfl, rfl, qI k (Cal.mz_tree n)⟩
theorem sc_first_of_numbered : FnScope ["number"] ["number"] (defScope s_first_of_numbered) := ⟨rfl, rfl, rfl, by decide +kernel, rfl, by decide +kernel, by decide +kernel⟩
theorem bd_first_of_numbered : Bd "first_of_numbered" s_first_of_numbered ["number"] := fun _ _ _ _ _ _ us hl => match us, hl with | [_], _ => rfl
theorem ok_first_of_numbered (T : Txt K mg) : Df P w K mg base "first_of_numbered" 3 ["number"] (spI1 (fun _ => True) Cal.fz) := by
  have D_first_of_month := ok_first_of_month (P := P) (w := w) (base := base) T
  refine T.f_first_of_numbered.df sc_first_of_numbered bd_first_of_numbered (fun vs H Q E h => ?_) (fun f cdv A outer s H vs Q E hr h => ?_)
  · obtain ⟨z, rfl, _, k⟩ := h
    rfl
  · obtain ⟨z, rfl, _, k⟩ := h
    refine ⟨_, (pss_one (ps_ret (pe_df D_first_of_month (hr.mono (by decide)) rfl (pa_cons (pe_op op_fdiv (pv 0) (pe_gi T.g_MONTHS_IN_YEAR rfl)) (pa_cons (pe_op op_add (pe_op op_mod (pv 0) (pe_gi T.g_MONTHS_IN_YEAR rfl)) pe_int) pa_nil))))), ?_⟩
    exact ⟨_, rfl, _, _, rfl, rfl, ⟨by decide, by decide⟩, _, rfl, _, _, rfl, rfl, (by show (0 : Int) < 12; decide), _, _, rfl, rfl, _, _, rfl, ⟨by omega, by omega⟩, k⟩
theorem sc_days_into_month : FnScope ["day"] ["day"] (defScope s_days_into_month) := ⟨rfl, rfl, rfl, by decide +kernel, rfl, by decide +kernel, by decide +kernel⟩
theorem bd_days_into_month : Bd "days_into_month" s_days_into_month ["day"] := fun _ _ _ _ _ _ us hl => match us, hl with | [_], _ => rfl
theorem ok_days_into_month (T : Txt K mg) : Df P w K mg base "days_into_month" 5 ["day"] (spI1 (fun _ => True) Cal.din) := by
  have D_first_of_numbered := ok_first_of_numbered (P := P) (w := w) (base := base) T
  have D_number_of_month := ok_number_of_month (P := P) (w := w) (base := base) T
  refine T.f_days_into_month.df sc_days_into_month bd_days_into_month (fun vs H Q E h => ?_) (fun f cdv A outer s H vs Q E hr h => ?_)
  · obtain ⟨n, rfl, _, k⟩ := h
    rfl
  · obtain ⟨n, rfl, _, k⟩ := h
    refine ⟨_, (pss_one (ps_ret (pe_op op_sub (pv 0) (pe_df D_first_of_numbered (hr.mono (by decide)) rfl (pa_cons (pe_df D_number_of_month (hr.mono (by decide)) rfl (pa_cons (pv 0) pa_nil)) pa_nil))))), ?_⟩
    exact ⟨_, rfl, _, rfl, _, rfl, trivial, _, rfl, trivial, _, _, rfl, rfl, qI k (Cal.din_tree n)⟩
theorem sc_day_of_week : FnScope ["day"] ["day"] (defScope s_day_of_week) := ⟨rfl, rfl, rfl, by decide +kernel, rfl, by decide +kernel, by decide +kernel⟩
theorem bd_day_of_week : Bd "day_of_week" s_day_of_week ["day"] := fun _ _ _ _ _ _ us hl => match us, hl with | [_], _ => rfl
theorem ok_day_of_week (T : Txt K mg) : Df P w K mg base "day_of_week" 1 ["day"] (spI1 (fun _ => True) Cal.wd) := by
  refine T.f_day_of_week.df sc_day_of_week bd_day_of_week (fun vs H Q E h => ?_) (fun f cdv A outer s H vs Q E hr h => ?_)
  · obtain ⟨x, rfl, _, k⟩ := h
    rfl
  · obtain ⟨x, rfl, _, k⟩ := h
    refine ⟨_, (pss_one (ps_ret (pe_op op_add (pe_op op_mod (pe_op op_add (pv 0) pe_int) (pe_gi T.g_DAYS_IN_WEEK rfl)) pe_int))), ?_⟩
    refine ⟨_, rfl, _, _, rfl, rfl, _, _, rfl, rfl, (by show (0 : Int) < 7; decide), _, _, rfl, rfl, qI k ?_⟩
    rw [Cal.wd_is]
theorem sc_first_of_week : FnScope ["day"] ["day"] (defScope s_first_of_week) := ⟨rfl, rfl, rfl, by decide +kernel, rfl, by decide +kernel, by decide +kernel⟩
theorem bd_first_of_week : Bd "first_of_week" s_first_of_week ["day"] := fun _ _ _ _ _ _ us hl => match us, hl with | [_], _ => rfl
theorem ok_first_of_week (T : Txt K mg) : Df P w K mg base "first_of_week" 2 ["day"] (spI1 (fun _ => True) Cal.fow) := by
  have D_day_of_week := ok_day_of_week (P := P) (w := w) (base := base) T
  refine T.f_first_of_week.df sc_first_of_week bd_first_of_week (fun vs H Q E h => ?_) (fun f cdv A outer s H vs Q E hr h => ?_)
  · obtain ⟨x, rfl, _, k⟩ := h
    rfl
  · obtain ⟨x, rfl, _, k⟩ := h
    refine ⟨_, (pss_one (ps_ret (pe_op op_add (pe_op op_sub (pv 0) (pe_df D_day_of_week (hr.mono (by decide)) rfl (pa_cons (pv 0) pa_nil))) pe_int))), ?_⟩
    exact ⟨_, rfl, _, rfl, _, rfl, trivial, _, _, rfl, rfl, _, _, rfl, rfl, k⟩
theorem sc_first_of_week_1 : FnScope ["year"] ["year"] (defScope s_first_of_week_1) := ⟨rfl, rfl, rfl, by decide +kernel, rfl, by decide +kernel, by decide +kernel⟩
theorem bd_first_of_week_1 : Bd "first_of_week_1" s_first_of_week_1 ["year"] := fun _ _ _ _ _ _ us hl => match us, hl with | [_], _ => rfl
theorem ok_first_of_week_1 (T : Txt K mg) : Df P w K mg base "first_of_week_1" 3 ["year"] (spI1 (fun _ => True) Sw11.week1) := by
  have D_first_of_week := ok_first_of_week (P := P) (w := w) (base := base) T
  have D_first_of_year := ok_first_of_year (P := P) (w := w) (base := base) T
  refine T.f_first_of_week_1.df sc_first_of_week_1 bd_first_of_week_1 (fun vs H Q E h => ?_) (fun f cdv A outer s H vs Q E hr h => ?_)
  · obtain ⟨y, rfl, _, k⟩ := h
    rfl
  · obtain ⟨y, rfl, _, k⟩ := h
    refine ⟨_, (pss_one (ps_ret (pe_df D_first_of_week (hr.mono (by decide)) rfl (pa_cons (pe_op op_add (pe_df D_first_of_year (hr.mono (by decide)) rfl (pa_cons (pv 0) pa_nil)) pe_int) pa_nil)))), ?_⟩
    exact ⟨_, rfl, _, rfl, trivial, _, _, rfl, rfl, _, rfl, trivial, qI k (Cal.fow_week1 y)⟩
theorem sc_year_of_week : FnScope ["day"] ["day"] (defScope s_year_of_week) := ⟨rfl, rfl, rfl, by decide +kernel, rfl, by decide +kernel, by decide +kernel⟩
theorem bd_year_of_week : Bd "year_of_week" s_year_of_week ["day"] := fun _ _ _ _ _ _ us hl => match us, hl with | [_], _ => rfl
theorem ok_year_of_week (T : Txt K mg) : Df P w K mg base "year_of_week" 3 ["day"] (spI1 (fun _ => True) Cal.wyof) := by
  have D_first_of_week := ok_first_of_week (P := P) (w := w) (base := base) T
  have D_year_of := ok_year_of (P := P) (w := w) (base := base) T
  refine T.f_year_of_week.df sc_year_of_week bd_year_of_week (fun vs H Q E h => ?_) (fun f cdv A outer s H vs Q E hr h => ?_)
  · obtain ⟨n, rfl, _, k⟩ := h
    rfl
  · obtain ⟨n, rfl, _, k⟩ := h
    refine ⟨_, (pss_one (ps_ret (pe_df D_year_of (hr.mono (by decide)) rfl (pa_cons (pe_op op_add (pe_df D_first_of_week (hr.mono (by decide)) rfl (pa_cons (pv 0) pa_nil)) pe_int) pa_nil)))), ?_⟩
    exact ⟨_, rfl, _, rfl, trivial, _, _, rfl, rfl, _, rfl, trivial, qI k (Cal.wyof_eq (Cal.wy_in n).1 (Cal.wy_in n).2).symm⟩
theorem sc_week_of_year : FnScope ["year", "day"] ["year", "day"] (defScope s_week_of_year) := ⟨rfl, rfl, rfl, by decide +kernel, rfl, by decide +kernel, by decide +kernel⟩
theorem bd_week_of_year : Bd "week_of_year" s_week_of_year ["year", "day"] := fun _ _ _ _ _ _ us hl => match us, hl with | [_, _], _ => rfl
theorem ok_week_of_year (T : Txt K mg) : Df P w K mg base "week_of_year" 4 ["year", "day"] (spI2 (fun _ _ => True) (fun y n => (n - Sw11.week1 y) / 7 + 1)) := by
  have D_first_of_week_1 := ok_first_of_week_1 (P := P) (w := w) (base := base) T
  refine T.f_week_of_year.df sc_week_of_year bd_week_of_year (fun vs H Q E h => ?_) (fun f cdv A outer s H vs Q E hr h => ?_)
  · obtain ⟨y, n, rfl, _, k⟩ := h
    rfl
  · obtain ⟨y, n, rfl, _, k⟩ := h
    refine ⟨_, (pss_one (ps_ret (pe_op op_add (pe_op op_fdiv (pe_op op_sub (pv 1) (pe_df D_first_of_week_1 (hr.mono (by decide)) rfl (pa_cons (pv 0) pa_nil))) (pe_gi T.g_DAYS_IN_WEEK rfl)) pe_int))), ?_⟩
    exact ⟨_, rfl, _, rfl, _, rfl, trivial, _, _, rfl, rfl, _, _, rfl, rfl, ⟨by decide, by decide⟩, _, _, rfl, rfl, k⟩
theorem sc_day_of_week_date : FnScope ["year", "week", "weekday"] ["year", "week", "weekday"] (defScope s_day_of_week_date) := ⟨rfl, rfl, rfl, by decide +kernel, rfl, by decide +kernel, by decide +kernel⟩
theorem bd_day_of_week_date : Bd "day_of_week_date" s_day_of_week_date ["year", "week", "weekday"] := fun _ _ _ _ _ _ us hl => match us, hl with | [_, _, _], _ => rfl
theorem ok_day_of_week_date (T : Txt K mg) : Df P w K mg base "day_of_week_date" 4 ["year", "week", "weekday"] (spI3 (fun _ _ _ => True) (fun y w d => Sw11.week1 y + (w - 1) * 7 + d - 1)) := by
  have D_first_of_week_1 := ok_first_of_week_1 (P := P) (w := w) (base := base) T
  refine T.f_day_of_week_date.df sc_day_of_week_date bd_day_of_week_date (fun vs H Q E h => ?_) (fun f cdv A outer s H vs Q E hr h => ?_)
  · obtain ⟨y, w, d, rfl, _, k⟩ := h
    rfl
  · obtain ⟨y, w, d, rfl, _, k⟩ := h
    refine ⟨_, (pss_one (ps_ret (pe_op op_sub (pe_op op_add (pe_op op_add (pe_df D_first_of_week_1 (hr.mono (by decide)) rfl (pa_cons (pv 0) pa_nil)) (pe_op op_mul (pe_op op_sub (pv 1) pe_int) (pe_gi T.g_DAYS_IN_WEEK rfl))) (pv 2)) pe_int))), ?_⟩
    exact ⟨_, rfl, _, rfl, trivial, _, rfl, _, _, rfl, rfl, _, _, rfl, rfl, .inr ⟨by decide, by decide⟩, _, _, rfl, rfl, _, rfl, _, _, rfl, rfl, _, _, rfl, rfl, k⟩
def q_is_number_of_signs (x : Int) : Bool := decide (0 ≤ x ∧ x ≤ 32)
theorem sc_is_number_of_signs : FnScope ["number"] ["number"] (defScope s_is_number_of_signs) := ⟨rfl, rfl, rfl, by decide +kernel, rfl, by decide +kernel, by decide +kernel⟩
theorem bd_is_number_of_signs : Bd "is_number_of_signs" s_is_number_of_signs ["number"] := fun _ _ _ _ _ _ us hl => match us, hl with | [_], _ => rfl
theorem ok_is_number_of_signs (T : Txt K mg) : Df P w K mg base "is_number_of_signs" 1 ["number"] (spB1 q_is_number_of_signs) := by
  refine T.f_is_number_of_signs.df sc_is_number_of_signs bd_is_number_of_signs (fun vs H Q E h => ?_) (fun f cdv A outer s H vs Q E hr h => ?_)
  · obtain ⟨x, rfl, k⟩ := h
    rfl
  · obtain ⟨x, rfl, k⟩ := h
    refine ⟨_, (pss_one (ps_ret (pe_and (pe_cmpR op_ge (pv 0) pe_int (nomark _)) (pe_one (pe_cmpR op_le (pv 0) (pe_gi T.g_MOST_SIGNS rfl) (nomark _)))))), ?_⟩
    refine ⟨_, rfl, _, _, rfl, rfl, _, rfl, ite2 (fun c => ?_) (fun c => ?_)⟩
    · refine ⟨_, rfl, _, _, rfl, rfl, qB k ?_⟩
      have c := dT c
      unfold q_is_number_of_signs
      rw [decide_eq_decide]
      omega
    · have c := dF c
      refine qB k ?_
      unfold q_is_number_of_signs
      symm
      rw [decide_eq_false_iff_not]
      omega
def sp_digits_of : Sp := fun vs H Q _ => ∃ n k : Nat, vs = [.int n, .int k] ∧ n < 10 ^ 7 ∧ k ≤ 4 ∧ Q (.str (ofL (dL k n))) H
theorem sc_digits_of : FnScope ["number", "digits"] ["number", "digits"] (defScope s_digits_of) := ⟨rfl, rfl, rfl, by decide +kernel, rfl, by decide +kernel, by decide +kernel⟩
theorem bd_digits_of : Bd "digits_of" s_digits_of ["number", "digits"] := fun _ _ _ _ _ _ us hl => match us, hl with | [_, _], _ => rfl
theorem ok_digits_of (T : Txt K mg) : Df P w K mg base "digits_of" 1 ["number", "digits"] (sp_digits_of) := by
  refine T.f_digits_of.df sc_digits_of bd_digits_of (fun vs H Q E h => ?_) (fun f cdv A outer s H vs Q E hr h => ?_)
  · obtain ⟨n, m, rfl, hn, hm, k⟩ := h
    rfl
  · obtain ⟨n, m, rfl, hn, hm, k⟩ := h
    refine ⟨_, (pss_one (ps_ret (pe_m1 PySem.F.slot_str_zfill PySem.F.type_str_zfill mt_zfill (pe_callTy call_str_int rfl T.b_str boot_str (pa_cons (pv 0) pa_nil)) (pv 1)))), ?_⟩
    refine ⟨_, rfl, _, rfl, log_small hn, ⟨_, rfl⟩, _, rfl, _, _, rfl, rfl, ?_, qS k ?_⟩
    · rcases (by omega : m = 0 ∨ m = 1 ∨ m = 2 ∨ m = 3 ∨ m = 4) with e | e | e | e | e <;> subst e <;> decide
    · show Txt.zfill (Str.ofString (toString ((n : Nat) : Int))) ((m : Nat) : Int) = _
      rw [str_num, zfill_num]
def sp_year_text : Sp := fun vs H Q _ => ∃ y : Int, vs = [.int y] ∧ y.natAbs < 10 ^ 7 ∧ Q (.str (ofL (cN (Sw11.yearText y)))) H
theorem abs_eq (y : Int) : [V.int (if y < 0 then -y else y), V.int 4] ++ [] = [V.int ((y.natAbs : Nat) : Int), V.int ((4 : Nat) : Int)] := by
  have e : (if y < 0 then -y else y) = ((y.natAbs : Nat) : Int) := by split <;> omega
  rw [e]
  rfl
theorem sc_year_text : FnScope ["year", "text"] ["year"] (defScope s_year_text) := ⟨rfl, rfl, rfl, by decide +kernel, rfl, by decide +kernel, by decide +kernel⟩
theorem bd_year_text : Bd "year_text" s_year_text ["year"] := fun _ _ _ _ _ _ us hl => match us, hl with | [_], _ => rfl
theorem ok_year_text (T : Txt K mg) : Df P w K mg base "year_text" 2 ["year"] (sp_year_text) := by
  have D_digits_of := ok_digits_of (P := P) (w := w) (base := base) T
  refine T.f_year_text.df sc_year_text bd_year_text (fun vs H Q E h => ?_) (fun f cdv A outer s H vs Q E hr h => ?_)
  · obtain ⟨y, rfl, hy, k⟩ := h
    rfl
  · obtain ⟨y, rfl, hy, k⟩ := h
    refine ⟨_, (pss_cons (ps_set (i := 1) sc_year_text.nd rfl (Or.inl rfl) (pe_df D_digits_of (hr.mono (by decide)) rfl (pa_cons (pe_callB call_abs rfl T.b_abs boot_abs (pa_cons (pv 0) pa_nil)) (pa_cons pe_int pa_nil))))
      (pss_cons (ps_if (pt_cmpR op_lt (pv 0) pe_int (nomark _)) (pss_one (ps_ret (pe_op op_add_str pe_str (pv 1)))) pss_nil)
      (pss_one (ps_ret (pv 1))))), ?_⟩
    have dl := d_len (k := 4) (n := y.natAbs) (by decide) hy
    have sz : sizeLine = 16777216 := sizeLine_eq
    refine ⟨_, rfl, _, rfl, _, _, abs_eq y, hy, by decide, ?_⟩
    refine ⟨_, rfl, _, _, rfl, rfl, _, rfl, ite2 (fun c => ?_) (fun c => ?_)⟩
    · have c := dT c
      refine ⟨_, rfl, _, _, rfl, rfl, ?_, qS k ?_⟩
      · rw [len_dash, sz]; omega
      · rw [yt_codes y hy, if_pos c, dash, ofL_app]
    · have c := dF c
      refine ⟨_, rfl, qS k ?_⟩
      rw [yt_codes y hy, if_neg c]
      rfl
def sp_text_by_month : Sp := fun vs H Q _ => ∃ n : Int, vs = [.int n] ∧ isd n = true ∧ Q (.str (ofL (cN (Sw11.textOf 0 n)))) H
theorem dom_eq (n : Int) : [V.int (Cal.din n + 1), V.int 2] ++ [] = [V.int (((Sw11.dayCivil n).d : Nat) : Int), V.int ((2 : Nat) : Int)] := by
  have e : Cal.din n + 1 = (((Sw11.dayCivil n).d : Nat) : Int) := by
    have := Cal.dom_c n
    unfold Cal.din
    omega
  rw [e]
  rfl
theorem sc_text_by_month : FnScope ["day", "year", "month"] ["day"] (defScope s_text_by_month) := ⟨rfl, rfl, rfl, by decide +kernel, rfl, by decide +kernel, by decide +kernel⟩
theorem bd_text_by_month : Bd "text_by_month" s_text_by_month ["day"] := fun _ _ _ _ _ _ us hl => match us, hl with | [_], _ => rfl
theorem ok_text_by_month (T : Txt K mg) : Df P w K mg base "text_by_month" 6 ["day"] (sp_text_by_month) := by
  have D_days_into_month := ok_days_into_month (P := P) (w := w) (base := base) T
  have D_digits_of := ok_digits_of (P := P) (w := w) (base := base) T
  have D_month_of := ok_month_of (P := P) (w := w) (base := base) T
  have D_year_of := ok_year_of (P := P) (w := w) (base := base) T
  have D_year_text := ok_year_text (P := P) (w := w) (base := base) T
  refine T.f_text_by_month.df sc_text_by_month bd_text_by_month (fun vs H Q E h => ?_) (fun f cdv A outer s H vs Q E hr h => ?_)
  · obtain ⟨n, rfl, hd, k⟩ := h
    rfl
  · obtain ⟨n, rfl, hd, k⟩ := h
    refine ⟨_, (pss_cons (ps_set (i := 1) sc_text_by_month.nd rfl (Or.inl rfl) (pe_df D_year_of (hr.mono (by decide)) rfl (pa_cons (pv 0) pa_nil)))
      (pss_cons (ps_set (i := 2) sc_text_by_month.nd rfl (Or.inl rfl) (pe_df D_month_of (hr.mono (by decide)) rfl (pa_cons (pv 1) (pa_cons (pv 0) pa_nil))))
      (pss_one (ps_ret (pe_op op_add_str (pe_op op_add_str (pe_op op_add_str (pe_op op_add_str (pe_df D_year_text (hr.mono (by decide)) rfl (pa_cons (pv 1) pa_nil)) pe_str) (pe_df D_digits_of (hr.mono (by decide)) rfl (pa_cons (pv 2) (pa_cons pe_int pa_nil)))) pe_str) (pe_df D_digits_of (hr.mono (by decide)) rfl (pa_cons (pe_op op_add (pe_df D_days_into_month (hr.mono (by decide)) rfl (pa_cons (pv 0) pa_nil)) pe_int) (pa_cons pe_int pa_nil)))))))), ?_⟩
    have y := Cal.year_near (isd_iff.mp hd)
    have c := civil_small n
    have sz : sizeLine = 16777216 := sizeLine_eq
    have hy : (Cal.yof n).natAbs < 10 ^ 7 := by unfold Cal.yof; omega
    have l1 := yt_len hy
    have l2 := d_len (k := 2) (n := (Sw11.dayCivil n).m) (by decide) (by omega)
    have l3 := d_len (k := 2) (n := (Sw11.dayCivil n).d) (by decide) (by omega)
    refine ⟨_, rfl, _, rfl, trivial, ?_⟩
    refine ⟨_, rfl, _, rfl, _, _, rfl, rfl, ?_⟩
    refine ⟨_, rfl, _, rfl, hy, _, _, rfl, rfl, ?_, _, rfl, (Sw11.dayCivil n).m, 2, rfl, (by omega), (by decide), _, _, rfl, rfl, ?_, _, _, rfl, rfl, ?_, _, rfl, _, rfl, trivial, _, _, rfl, rfl, _, _, dom_eq n, (by omega), (by decide), _, _, rfl, rfl, ?_, qS k ?_⟩
    · rw [len_dash, sz]; omega
    · rw [len_app, len_dash, sz]; omega
    · rw [len_app, len_app, len_dash, sz]; omega
    · rw [len_app, len_app, len_app, len_dash, sz]; omega
    · rw [dash, ofL_app, ofL_app, ofL_app, ofL_app, codes0]
      rfl
def sp_text_by_week : Sp := fun vs H Q _ => ∃ n : Int, vs = [.int n] ∧ isd n = true ∧ Q (.str (ofL (cN (Sw11.textOf 1 n)))) H
theorem week_eq (n : Int) : [V.int ((n - Sw11.week1 (Cal.wyof n)) / 7 + 1), V.int 2] ++ [] = [V.int (((Sw11.dayWeek n).2.1 : Nat) : Int), V.int ((2 : Nat) : Int)] := by
  have h := Cal.wyof_in n
  have e : (n - Sw11.week1 (Cal.wyof n)) / 7 + 1 = (((Sw11.dayWeek n).2.1 : Nat) : Int) := by
    rw [Cal.dayWeek_eq h.1 h.2]
    simp only
    omega
  rw [e]
  rfl
theorem wd_nat (n : Int) : Cal.wd n = (((Sw11.dayWeek n).2.2 : Nat) : Int) := by
  have h := Cal.wyof_in n
  rw [Cal.dayWeek_eq h.1 h.2, Cal.wd_is]
  simp only
  rw [Cal.wday_is]
theorem sc_text_by_week : FnScope ["day", "year", "week"] ["day"] (defScope s_text_by_week) := ⟨rfl, rfl, rfl, by decide +kernel, rfl, by decide +kernel, by decide +kernel⟩
theorem bd_text_by_week : Bd "text_by_week" s_text_by_week ["day"] := fun _ _ _ _ _ _ us hl => match us, hl with | [_], _ => rfl
theorem ok_text_by_week (T : Txt K mg) : Df P w K mg base "text_by_week" 5 ["day"] (sp_text_by_week) := by
  have D_day_of_week := ok_day_of_week (P := P) (w := w) (base := base) T
  have D_digits_of := ok_digits_of (P := P) (w := w) (base := base) T
  have D_week_of_year := ok_week_of_year (P := P) (w := w) (base := base) T
  have D_year_of_week := ok_year_of_week (P := P) (w := w) (base := base) T
  have D_year_text := ok_year_text (P := P) (w := w) (base := base) T
  refine T.f_text_by_week.df sc_text_by_week bd_text_by_week (fun vs H Q E h => ?_) (fun f cdv A outer s H vs Q E hr h => ?_)
  · obtain ⟨n, rfl, hd, k⟩ := h
    rfl
  · obtain ⟨n, rfl, hd, k⟩ := h
    refine ⟨_, (pss_cons (ps_set (i := 1) sc_text_by_week.nd rfl (Or.inl rfl) (pe_df D_year_of_week (hr.mono (by decide)) rfl (pa_cons (pv 0) pa_nil)))
      (pss_cons (ps_set (i := 2) sc_text_by_week.nd rfl (Or.inl rfl) (pe_df D_week_of_year (hr.mono (by decide)) rfl (pa_cons (pv 1) (pa_cons (pv 0) pa_nil))))
      (pss_one (ps_ret (pe_op op_add_str (pe_op op_add_str (pe_op op_add_str (pe_op op_add_str (pe_df D_year_text (hr.mono (by decide)) rfl (pa_cons (pv 1) pa_nil)) pe_str) (pe_df D_digits_of (hr.mono (by decide)) rfl (pa_cons (pv 2) (pa_cons pe_int pa_nil)))) pe_str) (pe_callTy call_str_int rfl T.b_str boot_str (pa_cons (pe_df D_day_of_week (hr.mono (by decide)) rfl (pa_cons (pv 0) pa_nil)) pa_nil))))))), ?_⟩
    have y := Cal.wyear_near (isd_iff.mp hd)
    have c := Cal.week_near n
    have sz : sizeLine = 16777216 := sizeLine_eq
    have hy : (Cal.wyof n).natAbs < 10 ^ 7 := by unfold Cal.wyof; omega
    have l1 := yt_len hy
    have l2 := d_len (k := 2) (n := (Sw11.dayWeek n).2.1) (by decide) (by omega)
    have e3 : (toString (Cal.wd n) : Str) = ofL (TL.numL (Sw11.dayWeek n).2.2) := by
      show Str.ofString (toString (Cal.wd n)) = _
      rw [wd_nat n, str_num]
    have l3 : (ofL (TL.numL (Sw11.dayWeek n).2.2)).length ≤ 1 := by
      rw [ofL_len]
      exact TL.numL_len (by decide) (by omega)
    refine ⟨_, rfl, _, rfl, trivial, ?_⟩
    refine ⟨_, rfl, _, rfl, _, _, rfl, trivial, ?_⟩
    refine ⟨_, rfl, _, rfl, hy, _, _, rfl, rfl, ?_, _, rfl, _, _, week_eq n, (by omega), (by decide), _, _, rfl, rfl, ?_, _, _, rfl, rfl, ?_, _, rfl, _, rfl, trivial, _, rfl, ?_, _, _, rfl, rfl, ?_, qS k ?_⟩
    · rw [len_dashW, sz]; omega
    · rw [len_app, len_dashW, sz]; omega
    · rw [len_app, len_app, len_dashW, len_dash, sz]; omega
    · rw [wd_nat n]; exact log_small (by omega)
    · rw [e3, len_app, len_app, len_app, len_dashW, len_dash, sz]; omega
    · rw [e3, dash, dashW, ofL_app, ofL_app, ofL_app, ofL_app, codes1]
def sp_text_by_year : Sp := fun vs H Q _ => ∃ n : Int, vs = [.int n] ∧ isd n = true ∧ Q (.str (ofL (cN (Sw11.textOf 2 n)))) H
theorem yday_eq (n : Int) : [V.int (n - Cal.foy (Cal.yof n) + 1), V.int 3] ++ [] = [V.int (((Sw11.before (Sw11.dayCivil n).y (Sw11.dayCivil n).m + (Sw11.dayCivil n).d : Nat) : Nat) : Int), V.int ((3 : Nat) : Int)] := by
  have e : n - Cal.foy (Cal.yof n) + 1 = (((Sw11.before (Sw11.dayCivil n).y (Sw11.dayCivil n).m + (Sw11.dayCivil n).d : Nat) : Nat) : Int) := by
    have := (Cal.yday_near n).2.2
    unfold Cal.foy Cal.yof
    omega
  rw [e]
  rfl
theorem sc_text_by_year : FnScope ["day", "year"] ["day"] (defScope s_text_by_year) := ⟨rfl, rfl, rfl, by decide +kernel, rfl, by decide +kernel, by decide +kernel⟩
theorem bd_text_by_year : Bd "text_by_year" s_text_by_year ["day"] := fun _ _ _ _ _ _ us hl => match us, hl with | [_], _ => rfl
theorem ok_text_by_year (T : Txt K mg) : Df P w K mg base "text_by_year" 3 ["day"] (sp_text_by_year) := by
  have D_digits_of := ok_digits_of (P := P) (w := w) (base := base) T
  have D_first_of_year := ok_first_of_year (P := P) (w := w) (base := base) T
  have D_year_of := ok_year_of (P := P) (w := w) (base := base) T
  have D_year_text := ok_year_text (P := P) (w := w) (base := base) T
  refine T.f_text_by_year.df sc_text_by_year bd_text_by_year (fun vs H Q E h => ?_) (fun f cdv A outer s H vs Q E hr h => ?_)
  · obtain ⟨n, rfl, hd, k⟩ := h
    rfl
  · obtain ⟨n, rfl, hd, k⟩ := h
    refine ⟨_, (pss_cons (ps_set (i := 1) sc_text_by_year.nd rfl (Or.inl rfl) (pe_df D_year_of (hr.mono (by decide)) rfl (pa_cons (pv 0) pa_nil)))
      (pss_one (ps_ret (pe_op op_add_str (pe_op op_add_str (pe_df D_year_text (hr.mono (by decide)) rfl (pa_cons (pv 1) pa_nil)) pe_str) (pe_df D_digits_of (hr.mono (by decide)) rfl (pa_cons (pe_op op_add (pe_op op_sub (pv 0) (pe_df D_first_of_year (hr.mono (by decide)) rfl (pa_cons (pv 1) pa_nil))) pe_int) (pa_cons pe_int pa_nil))))))), ?_⟩
    have y := Cal.year_near (isd_iff.mp hd)
    have c := Cal.yday_near n
    have sz : sizeLine = 16777216 := sizeLine_eq
    have hy : (Cal.yof n).natAbs < 10 ^ 7 := by unfold Cal.yof; omega
    have l1 := yt_len hy
    have l2 := d_len (k := 3) (n := Sw11.before (Sw11.dayCivil n).y (Sw11.dayCivil n).m + (Sw11.dayCivil n).d) (by decide) (by omega)
    refine ⟨_, rfl, _, rfl, trivial, ?_⟩
    refine ⟨_, rfl, _, rfl, hy, _, _, rfl, rfl, ?_, _, rfl, _, rfl, _, rfl, trivial, _, _, rfl, rfl, _, _, rfl, rfl, _, _, yday_eq n, (by omega), (by decide), _, _, rfl, rfl, ?_, qS k ?_⟩
    · rw [len_dash, sz]; omega
    · rw [len_app, len_dash, sz]; omega
    · rw [dash, ofL_app, ofL_app, codes2]
      rfl
def sp_text_of : Sp := fun vs H Q _ => ∃ f n : Int, vs = [.int f, .int n] ∧ (0 ≤ f ∧ f ≤ 2) ∧ isd n = true ∧ Q (.str (ofL (cN (Sw11.textOf f.toNat n)))) H
theorem sc_text_of : FnScope ["form", "day"] ["form", "day"] (defScope s_text_of) := ⟨rfl, rfl, rfl, by decide +kernel, rfl, by decide +kernel, by decide +kernel⟩
theorem bd_text_of : Bd "text_of" s_text_of ["form", "day"] := fun _ _ _ _ _ _ us hl => match us, hl with | [_, _], _ => rfl
theorem ok_text_of (T : Txt K mg) : Df P w K mg base "text_of" 7 ["form", "day"] (sp_text_of) := by
  have D_text_by_month := ok_text_by_month (P := P) (w := w) (base := base) T
  have D_text_by_week := ok_text_by_week (P := P) (w := w) (base := base) T
  have D_text_by_year := ok_text_by_year (P := P) (w := w) (base := base) T
  refine T.f_text_of.df sc_text_of bd_text_of (fun vs H Q E h => ?_) (fun f cdv A outer s H vs Q E hr h => ?_)
  · obtain ⟨f, n, rfl, hf, hd, k⟩ := h
    rfl
  · obtain ⟨f, n, rfl, hf, hd, k⟩ := h
    refine ⟨_, (pss_cons (ps_if (pt_cmpR op_eq (pv 0) (pe_gi T.g_BY_MONTH rfl) (nomark _)) (pss_one (ps_ret (pe_df D_text_by_month (hr.mono (by decide)) rfl (pa_cons (pv 1) pa_nil)))) pss_nil)
      (pss_cons (ps_if (pt_cmpR op_eq (pv 0) (pe_gi T.g_BY_WEEK rfl) (nomark _)) (pss_one (ps_ret (pe_df D_text_by_week (hr.mono (by decide)) rfl (pa_cons (pv 1) pa_nil)))) pss_nil)
      (pss_one (ps_ret (pe_df D_text_by_year (hr.mono (by decide)) rfl (pa_cons (pv 1) pa_nil)))))), ?_⟩
    refine ⟨_, rfl, rfl, _, rfl, ite2 (fun c => ?_) (fun c => ?_)⟩
    · have c := vT c
      subst c
      exact ⟨_, rfl, _, rfl, hd, k⟩
    have c := vF c
    refine ⟨_, rfl, rfl, _, rfl, ite2 (fun c2 => ?_) (fun c2 => ?_)⟩
    · have c2 := vT c2
      subst c2
      exact ⟨_, rfl, _, rfl, hd, k⟩
    have c2 := vF c2
    have e : f = 2 := by omega
    subst e
    exact ⟨_, rfl, _, rfl, hd, k⟩
def sp_signs_of : Sp := fun vs H Q _ => ∃ l : List Nat, vs = [.str (ofL l)] ∧ l.length ≤ 1000 ∧ ∀ (H' : Hp) (p : Addr), H p = none → H' p = some (.lst ((cI l).map V.int)) → Same H H' → Q (.ref p) H'
theorem cI_snoc {l : List Nat} {i c : Nat} (h : l[i]? = some c) : cI (l.take (i + 1)) = cI (l.take i) ++ [(c : Int)] := by
  rw [take_snoc h]
  unfold cI
  rw [List.map_append]
  rfl
theorem sc_signs_of : FnScope ["text", "sign"] ["text"] (defScope s_signs_of) := ⟨rfl, rfl, rfl, by decide +kernel, rfl, by decide +kernel, by decide +kernel⟩
theorem bd_signs_of : Bd "signs_of" s_signs_of ["text"] := fun _ _ _ _ _ _ us hl => match us, hl with | [_], _ => rfl
theorem ok_signs_of (T : Txt K mg) : Df P w K mg base "signs_of" 1 ["text"] (sp_signs_of) := by
  refine T.f_signs_of.df sc_signs_of bd_signs_of (fun vs H Q E h => ?_) (fun f cdv A outer s H vs Q E hr h => ?_)
  · obtain ⟨l, rfl, hl, k⟩ := h
    rfl
  · obtain ⟨l, rfl, hl, k⟩ := h
    refine ⟨_, (pss_one (ps_ret (pe_lc rfl sc_signs_of.nd (pi_str (pv 0)) (blkOk_by (own := [("sign", 1)]) (by show blkC ["text", "sign"] (defScope s_signs_of) _ _ = true; decide +kernel)) (fun _ _ _ _ _ => pg_name (i := 1) sc_signs_of.nd rfl (Or.inl rfl)) (fun _ _ _ _ _ => pts_nil) (fun _ _ _ _ _ => (pe_callB call_ord rfl T.b_ord boot_ord (pa_cons (pv 1) pa_nil)))))), ?_⟩
    refine ⟨_, rfl, _, rfl, fun D hD => ?_⟩
    refine lc_str (x := ofL l) (fun i H' => H' D = some (.lst ((cI (l.take i)).map V.int)) ∧ Same H H') ⟨upd_same, Same.put hD⟩ ?_ ?_
    · rintro i c H' hc ⟨h1, h2⟩
      have hc' : l[i]? = some c := by
        have : (ofL l).cps[i]? = l[i]? := by unfold ofL; simp
        rw [← this]; exact hc
      refine ⟨rfl, ?_⟩
      refine ⟨_, rfl, _, rfl, rfl, _, h1, ?_, ?_, Same.put' h2 hD⟩
      · have : ((cI (l.take i)).map V.int).length ≤ 1000 := by
          unfold cI
          rw [List.length_map, List.length_map, List.length_take]
          omega
        exact small1000 this
      · rw [upd_same, cI_snoc hc', List.map_append]
        rfl
    · rintro H' ⟨h1, h2⟩
      refine k H' D hD ?_ h2
      rw [h1]
      have : (ofL l).cps.size = l.length := by unfold ofL; simp
      rw [this, List.take_length]
def sp_number_told (K : PySem.W.Frag) : Sp := fun vs H Q _ => ∃ (a : Addr) (l : List Int), vs = [.ref a] ∧ SqL K H a (l.map V.int) ∧ Q (.int (Cal.numT l)) H
theorem sc_number_told : FnScope ["signs", "number", "sign"] ["signs"] (defScope s_number_told) := ⟨rfl, rfl, rfl, by decide +kernel, rfl, by decide +kernel, by decide +kernel⟩
theorem bd_number_told : Bd "number_told" s_number_told ["signs"] := fun _ _ _ _ _ _ us hl => match us, hl with | [_], _ => rfl
theorem ok_number_told (T : Txt K mg) : Df P w K mg base "number_told" 1 ["signs"] (sp_number_told K) := by
  refine T.f_number_told.df sc_number_told bd_number_told (fun vs H Q E h => ?_) (fun f cdv A outer s H vs Q E hr h => ?_)
  · obtain ⟨a, l, rfl, hS, k⟩ := h
    rfl
  · obtain ⟨a, l, rfl, hS, k⟩ := h
    refine ⟨_, (pss_cons (ps_set (i := 1) sc_number_told.nd rfl (Or.inl rfl) pe_int)
      (pss_cons (ps_for PassesOwn.never rfl (pi_list (pv 0)) (pg_name (i := 2) sc_number_told.nd rfl (Or.inl rfl)) (pss_one (ps_set (i := 1) sc_number_told.nd rfl (Or.inl rfl) (pe_op op_sub (pe_op op_add (pe_op op_mul (pv 1) pe_int) (pv 2)) (pe_gi T.g_DIGIT_0 rfl)))))
      (pss_one (ps_ret (pv 1))))), ?_⟩
    refine ⟨_, rfl, a, rfl, ⟨_, hS⟩, for_list (K := K) (a := a) (xs := l.map V.int) (fun i σ H' => ∃ v : Option V, σ = [some (.ref a), some (.int (Cal.numT (l.take i))), v] ∧ H' = H)
      ⟨_, rfl, rfl⟩ (fun i σ H' _ ⟨_, _, e⟩ => by rw [e]; exact hS) ?_ ?_⟩
    · rintro i y σ H' hi ⟨v, rfl, rfl⟩
      obtain ⟨z, hz, rfl⟩ := ints_at hi
      refine ⟨_, rfl, _, _, rfl, rfl, .inr ⟨by decide, by decide⟩, _, rfl, _, _, rfl, rfl, _, _, rfl, rfl, ?_⟩
      refine ⟨some (V.int z), ?_, rfl⟩
      rw [take_snoc hz, Cal.numT_snoc]
      rfl
    · rintro σ H' ⟨v, rfl, rfl⟩
      refine ⟨_, rfl, qI k ?_⟩
      rw [List.length_map, List.take_length]
theorem sx_eq (n d : Nat) (o : Option Int) : HT.sIx n d o = Cal.sx n d o := by cases o <;> rfl
theorem cutV_ints (l : List Int) (lo hi : Option Int) : cutV (l.map V.int) lo hi = (Cal.cutI l lo hi).map V.int := by
  unfold cutV Cal.cutI
  rw [sx_eq, sx_eq, List.length_map, ← List.map_drop, ← List.map_take]
theorem cut_1 (l : List Int) : Cal.cutI l none (some 1) = l.take 1 := by
  unfold Cal.cutI Cal.sx
  simp only
  rw [if_neg (by decide), List.drop_zero, Nat.sub_zero]
  rcases (by omega : l.length = 0 ∨ 1 ≤ l.length) with c | c
  · have : l = [] := List.eq_nil_of_length_eq_zero c
    rw [this]; rfl
  · rw [Nat.min_eq_left (by simpa using c)]; rfl
theorem cut_1' (l : List Int) : Cal.cutI l (some 1) none = l.drop 1 := by
  unfold Cal.cutI Cal.sx
  simp only
  rw [if_neg (by decide)]
  rcases (by omega : l.length = 0 ∨ 1 ≤ l.length) with c | c
  · have : l = [] := List.eq_nil_of_length_eq_zero c
    rw [this]; rfl
  · rw [Nat.min_eq_left (by simpa using c)]
    show (l.drop 1).take (l.length - 1) = l.drop 1
    rw [List.take_of_length_le (by rw [List.length_drop]; omega)]
theorem dp_ints {K : PySem.W.Frag} {H : Hp} : ∀ ns : List Int, DpAll K H (ns.map V.int) (ns.map PyData.int)
  | [] => .nil
  | n :: r => .cons (.int n) (dp_ints r)
theorem eqvAll_ints : ∀ ns ms : List Int, PyData.eqvAll (ns.map PyData.int) (ms.map PyData.int) = decide (ns = ms)
  | [], [] => rfl
  | [], m :: ms => by simp [PyData.eqvAll]
  | n :: ns, [] => by simp [PyData.eqvAll]
  | n :: ns, m :: ms => by
    show (PyData.eqv (.int n) (.int m) && PyData.eqvAll (ns.map PyData.int) (ms.map PyData.int)) = _
    rw [eqvAll_ints ns ms, Bool.eq_iff_iff, Bool.and_eq_true, decide_eq_true_eq, decide_eq_true_eq, List.cons.injEq]
    simp [PyData.eqv]
theorem eqv_ints (ns ms : List Int) : PyData.eqv (.list (ns.map PyData.int)) (.list (ms.map PyData.int)) = decide (ns = ms) := by
  rw [← eqvAll_ints]
  simp [PyData.eqv]
theorem shp (ns : List Int) : SeqAt.shaped (.list (ns.map PyData.int)) = true := PySem.W.ke_shaped_ints ns
def sp_year_told (K : PySem.W.Frag) : Sp := fun vs H Q _ => ∃ (a : Addr) (l : List Int), vs = [.ref a] ∧ SqL K H a (l.map V.int) ∧ ∀ H', Same H H' → Q (.int (Cal.yrT l)) H' 
theorem sc_year_told : FnScope ["signs"] ["signs"] (defScope s_year_told) := ⟨rfl, rfl, rfl, by decide +kernel, rfl, by decide +kernel, by decide +kernel⟩
theorem bd_year_told : Bd "year_told" s_year_told ["signs"] := fun _ _ _ _ _ _ us hl => match us, hl with | [_], _ => rfl
theorem ok_year_told (T : Txt K mg) : Df P w K mg base "year_told" 2 ["signs"] (sp_year_told K) := by
  have D_number_told := ok_number_told (P := P) (w := w) (base := base) T
  refine T.f_year_told.df sc_year_told bd_year_told (fun vs H Q E h => ?_) (fun f cdv A outer s H vs Q E hr h => ?_)
  · obtain ⟨a, l, rfl, hS, k⟩ := h
    rfl
  · obtain ⟨a, l, rfl, hS, k⟩ := h
    refine ⟨_, (pss_cons (ps_if (pt_cmpR (op_eqD hr.units) (pe_slice sl_list (pv 0) po_none (po_some pe_int)) (pe_lst (pa_cons (pe_gi T.g_MINUS rfl) pa_nil)) (nomark _)) (pss_one (ps_ret (pe_un un_neg (pe_df D_number_told (hr.mono (by decide)) rfl (pa_cons (pe_slice sl_list (pv 0) (po_some pe_int) po_none) pa_nil))))) pss_nil)
      (pss_one (ps_ret (pe_df D_number_told (hr.mono (by decide)) rfl (pa_cons (pv 0) pa_nil))))), ?_⟩
    refine ⟨_, rfl, _, rfl, a, _, rfl, hS, fun p hp => ⟨(by show 1 ≤ sizeLine; decide), fun q hq => ?_⟩⟩
    have s1 : Same H (upd H p (.lst (cutV (l.map V.int) none (some 1)))) := Same.put hp
    have s2 : Same H (upd (upd H p (.lst (cutV (l.map V.int) none (some 1)))) q (.lst [V.int 45])) := s1.trans (Same.put hq)
    have np : p ≠ q := ne_of_none upd_same hq
    have e1 : cutV (l.map V.int) none (some 1) = (l.take 1).map V.int := by rw [cutV_ints, cut_1]
    refine ⟨.list ((l.take 1).map PyData.int), .list (([45] : List Int).map PyData.int), .lst (SqL.of (by rw [upd_ne np, upd_same, e1])) (dp_ints _), .lst (SqL.of upd_same) (dp_ints [45]), shp _, shp _, _, rfl, ite2 (fun c => ?_) (fun c => ?_)⟩
    · rw [eqv_ints] at c
      have c := dT c
      refine ⟨_, rfl, _, rfl, a, _, rfl, s2.seq hS, fun r h_r => ?_⟩
      have e2 : cutV (l.map V.int) (some 1) none = (l.drop 1).map V.int := by rw [cutV_ints, cut_1']
      refine ⟨r, l.drop 1, rfl, SqL.of (by rw [upd_same, e2]), _, rfl, qI (k _ (s2.trans (Same.put h_r))) ?_⟩
      unfold Cal.yrT
      rw [if_pos c]
    · rw [eqv_ints] at c
      have c := dF c
      refine ⟨_, rfl, a, l, rfl, s2.seq hS, qI (k _ s2) ?_⟩
      unfold Cal.yrT
      rw [if_neg c]
def sp_told_by_month (K : PySem.W.Frag) : Sp := fun vs H Q _ => ∃ (a : Addr) (l : List Int), vs = [.ref a] ∧ SqL K H a (l.map V.int) ∧ ∀ H', Same H H' → Q (.int (Cal.told0 l)) H' 
theorem sc_told_by_month : FnScope ["signs", "month"] ["signs"] (defScope s_told_by_month) := ⟨rfl, rfl, rfl, by decide +kernel, rfl, by decide +kernel, by decide +kernel⟩
theorem bd_told_by_month : Bd "told_by_month" s_told_by_month ["signs"] := fun _ _ _ _ _ _ us hl => match us, hl with | [_], _ => rfl
theorem ok_told_by_month (T : Txt K mg) : Df P w K mg base "told_by_month" 4 ["signs"] (sp_told_by_month K) := by
  have D_first_of_numbered := ok_first_of_numbered (P := P) (w := w) (base := base) T
  have D_number_told := ok_number_told (P := P) (w := w) (base := base) T
  have D_year_told := ok_year_told (P := P) (w := w) (base := base) T
  refine T.f_told_by_month.df sc_told_by_month bd_told_by_month (fun vs H Q E h => ?_) (fun f cdv A outer s H vs Q E hr h => ?_)
  · obtain ⟨a, l, rfl, hS, k⟩ := h
    rfl
  · obtain ⟨a, l, rfl, hS, k⟩ := h
    refine ⟨_, (pss_cons (ps_set (i := 1) sc_told_by_month.nd rfl (Or.inl rfl) (pe_op op_sub (pe_op op_add (pe_op op_mul (pe_df D_year_told (hr.mono (by decide)) rfl (pa_cons (pe_slice sl_list (pv 0) po_none (po_some (pe_un un_neg pe_int))) pa_nil)) (pe_gi T.g_MONTHS_IN_YEAR rfl)) (pe_df D_number_told (hr.mono (by decide)) rfl (pa_cons (pe_slice sl_list (pv 0) (po_some (pe_un un_neg pe_int)) (po_some (pe_un un_neg pe_int))) pa_nil))) pe_int))
      (pss_one (ps_ret (pe_op op_sub (pe_op op_add (pe_df D_first_of_numbered (hr.mono (by decide)) rfl (pa_cons (pv 1) pa_nil)) (pe_df D_number_told (hr.mono (by decide)) rfl (pa_cons (pe_slice sl_list (pv 0) (po_some (pe_un un_neg pe_int)) po_none) pa_nil))) pe_int)))), ?_⟩
    refine ⟨_, rfl, _, rfl, _, rfl, a, _, rfl, hS, fun p hp => ?_⟩
    have s1 := Same.put (o := .lst (cutV (l.map V.int) none (some (-6)))) hp
    refine ⟨p, _, rfl, SqL.of (by rw [upd_same, cutV_ints]), fun H1 t1 => ?_⟩
    have s2 := s1.trans t1
    refine ⟨_, _, rfl, rfl, .inr ⟨by decide, by decide⟩, _, rfl, _, rfl, _, rfl, _, rfl, _, rfl, a, _, rfl, s2.seq hS, fun q hq => ?_⟩
    have s3 := s2.trans (Same.put (o := .lst (cutV (l.map V.int) (some (-5)) (some (-3)))) hq)
    refine ⟨q, _, rfl, SqL.of (by rw [upd_same, cutV_ints]), _, _, rfl, rfl, _, _, rfl, rfl, ?_⟩
    refine ⟨_, rfl, _, rfl, trivial, _, rfl, _, rfl, _, rfl, a, _, rfl, s3.seq hS, fun r h_r => ?_⟩
    have s4 := s3.trans (Same.put (o := .lst (cutV (l.map V.int) (some (-2)) none)) h_r)
    exact ⟨r, _, rfl, SqL.of (by rw [upd_same, cutV_ints]), _, _, rfl, rfl, _, _, rfl, rfl, k _ s4⟩
def sp_told_by_week (K : PySem.W.Frag) : Sp := fun vs H Q _ => ∃ (a : Addr) (l : List Int), vs = [.ref a] ∧ SqL K H a (l.map V.int) ∧ ∀ H', Same H H' → Q (.int (Cal.told1 l)) H' 
theorem sc_told_by_week : FnScope ["signs"] ["signs"] (defScope s_told_by_week) := ⟨rfl, rfl, rfl, by decide +kernel, rfl, by decide +kernel, by decide +kernel⟩
theorem bd_told_by_week : Bd "told_by_week" s_told_by_week ["signs"] := fun _ _ _ _ _ _ us hl => match us, hl with | [_], _ => rfl
theorem ok_told_by_week (T : Txt K mg) : Df P w K mg base "told_by_week" 5 ["signs"] (sp_told_by_week K) := by
  have D_day_of_week_date := ok_day_of_week_date (P := P) (w := w) (base := base) T
  have D_number_told := ok_number_told (P := P) (w := w) (base := base) T
  have D_year_told := ok_year_told (P := P) (w := w) (base := base) T
  refine T.f_told_by_week.df sc_told_by_week bd_told_by_week (fun vs H Q E h => ?_) (fun f cdv A outer s H vs Q E hr h => ?_)
  · obtain ⟨a, l, rfl, hS, k⟩ := h
    rfl
  · obtain ⟨a, l, rfl, hS, k⟩ := h
    refine ⟨_, (pss_one (ps_ret (pe_df D_day_of_week_date (hr.mono (by decide)) rfl (pa_cons (pe_df D_year_told (hr.mono (by decide)) rfl (pa_cons (pe_slice sl_list (pv 0) po_none (po_some (pe_un un_neg pe_int))) pa_nil)) (pa_cons (pe_df D_number_told (hr.mono (by decide)) rfl (pa_cons (pe_slice sl_list (pv 0) (po_some (pe_un un_neg pe_int)) (po_some (pe_un un_neg pe_int))) pa_nil)) (pa_cons (pe_df D_number_told (hr.mono (by decide)) rfl (pa_cons (pe_slice sl_list (pv 0) (po_some (pe_un un_neg pe_int)) po_none) pa_nil)) pa_nil)))))), ?_⟩
    refine ⟨_, rfl, _, rfl, _, rfl, a, _, rfl, hS, fun p hp => ?_⟩
    have s1 := Same.put (o := .lst (cutV (l.map V.int) none (some (-6)))) hp
    refine ⟨p, _, rfl, SqL.of (by rw [upd_same, cutV_ints]), fun H1 t1 => ?_⟩
    have s2 := s1.trans t1
    refine ⟨_, rfl, _, rfl, _, rfl, _, rfl, _, rfl, a, _, rfl, s2.seq hS, fun q hq => ?_⟩
    have s3 := s2.trans (Same.put (o := .lst (cutV (l.map V.int) (some (-4)) (some (-2)))) hq)
    refine ⟨q, _, rfl, SqL.of (by rw [upd_same, cutV_ints]), _, rfl, _, rfl, _, rfl, a, _, rfl, s3.seq hS, fun r h_r => ?_⟩
    have s4 := s3.trans (Same.put (o := .lst (cutV (l.map V.int) (some (-1)) none)) h_r)
    exact ⟨r, _, rfl, SqL.of (by rw [upd_same, cutV_ints]), _, _, _, rfl, trivial, k _ s4⟩
def sp_told_by_year (K : PySem.W.Frag) : Sp := fun vs H Q _ => ∃ (a : Addr) (l : List Int), vs = [.ref a] ∧ SqL K H a (l.map V.int) ∧ ∀ H', Same H H' → Q (.int (Cal.told2 l)) H' 
theorem sc_told_by_year : FnScope ["signs"] ["signs"] (defScope s_told_by_year) := ⟨rfl, rfl, rfl, by decide +kernel, rfl, by decide +kernel, by decide +kernel⟩
theorem bd_told_by_year : Bd "told_by_year" s_told_by_year ["signs"] := fun _ _ _ _ _ _ us hl => match us, hl with | [_], _ => rfl
theorem ok_told_by_year (T : Txt K mg) : Df P w K mg base "told_by_year" 3 ["signs"] (sp_told_by_year K) := by
  have D_first_of_year := ok_first_of_year (P := P) (w := w) (base := base) T
  have D_number_told := ok_number_told (P := P) (w := w) (base := base) T
  have D_year_told := ok_year_told (P := P) (w := w) (base := base) T
  refine T.f_told_by_year.df sc_told_by_year bd_told_by_year (fun vs H Q E h => ?_) (fun f cdv A outer s H vs Q E hr h => ?_)
  · obtain ⟨a, l, rfl, hS, k⟩ := h
    rfl
  · obtain ⟨a, l, rfl, hS, k⟩ := h
    refine ⟨_, (pss_one (ps_ret (pe_op op_sub (pe_op op_add (pe_df D_first_of_year (hr.mono (by decide)) rfl (pa_cons (pe_df D_year_told (hr.mono (by decide)) rfl (pa_cons (pe_slice sl_list (pv 0) po_none (po_some (pe_un un_neg pe_int))) pa_nil)) pa_nil)) (pe_df D_number_told (hr.mono (by decide)) rfl (pa_cons (pe_slice sl_list (pv 0) (po_some (pe_un un_neg pe_int)) po_none) pa_nil))) pe_int))), ?_⟩
    refine ⟨_, rfl, _, rfl, _, rfl, a, _, rfl, hS, fun p hp => ?_⟩
    have s1 := Same.put (o := .lst (cutV (l.map V.int) none (some (-4)))) hp
    refine ⟨p, _, rfl, SqL.of (by rw [upd_same, cutV_ints]), fun H1 t1 => ?_⟩
    have s2 := s1.trans t1
    refine ⟨_, rfl, trivial, _, rfl, _, rfl, _, rfl, a, _, rfl, s2.seq hS, fun q hq => ?_⟩
    have s3 := s2.trans (Same.put (o := .lst (cutV (l.map V.int) (some (-3)) none)) hq)
    exact ⟨q, _, rfl, SqL.of (by rw [upd_same, cutV_ints]), _, _, rfl, rfl, _, _, rfl, rfl, k _ s3⟩
def sp_day_told (K : PySem.W.Frag) : Sp := fun vs H Q _ => ∃ (f : Int) (a : Addr) (l : List Int), vs = [.int f, .ref a] ∧ SqL K H a (l.map V.int) ∧ ∀ H', Same H H' → Q (.int (Cal.tld f l)) H' 
theorem sc_day_told : FnScope ["form", "signs"] ["form", "signs"] (defScope s_day_told) := ⟨rfl, rfl, rfl, by decide +kernel, rfl, by decide +kernel, by decide +kernel⟩
theorem bd_day_told : Bd "day_told" s_day_told ["form", "signs"] := fun _ _ _ _ _ _ us hl => match us, hl with | [_, _], _ => rfl
theorem ok_day_told (T : Txt K mg) : Df P w K mg base "day_told" 6 ["form", "signs"] (sp_day_told K) := by
  have D_told_by_month := ok_told_by_month (P := P) (w := w) (base := base) T
  have D_told_by_week := ok_told_by_week (P := P) (w := w) (base := base) T
  have D_told_by_year := ok_told_by_year (P := P) (w := w) (base := base) T
  refine T.f_day_told.df sc_day_told bd_day_told (fun vs H Q E h => ?_) (fun f cdv A outer s H vs Q E hr h => ?_)
  · obtain ⟨f, a, l, rfl, hS, k⟩ := h
    rfl
  · obtain ⟨f, a, l, rfl, hS, k⟩ := h
    refine ⟨_, (pss_cons (ps_if (pt_cmpR op_eq (pv 0) (pe_gi T.g_BY_MONTH rfl) (nomark _)) (pss_one (ps_ret (pe_df D_told_by_month (hr.mono (by decide)) rfl (pa_cons (pv 1) pa_nil)))) pss_nil)
      (pss_cons (ps_if (pt_cmpR op_eq (pv 0) (pe_gi T.g_BY_WEEK rfl) (nomark _)) (pss_one (ps_ret (pe_df D_told_by_week (hr.mono (by decide)) rfl (pa_cons (pv 1) pa_nil)))) pss_nil)
      (pss_one (ps_ret (pe_df D_told_by_year (hr.mono (by decide)) rfl (pa_cons (pv 1) pa_nil)))))), ?_⟩
    refine ⟨_, rfl, rfl, _, rfl, ite2 (fun c => ?_) (fun c => ?_)⟩
    · have c := vT c
      refine ⟨_, rfl, a, l, rfl, hS, fun H1 s1 => qI (k H1 s1) ?_⟩
      unfold Cal.tld
      rw [if_pos c]
    have c := vF c
    refine ⟨_, rfl, rfl, _, rfl, ite2 (fun c2 => ?_) (fun c2 => ?_)⟩
    · have c2 := vT c2
      refine ⟨_, rfl, a, l, rfl, hS, fun H1 s1 => qI (k H1 s1) ?_⟩
      unfold Cal.tld
      rw [if_neg c, if_pos c2]
    have c2 := vF c2
    refine ⟨_, rfl, a, l, rfl, hS, fun H1 s1 => qI (k H1 s1) ?_⟩
    unfold Cal.tld
    rw [if_neg c, if_neg c2]
def sp_is_written (K : PySem.W.Frag) : Sp := fun vs H Q _ => ∃ (f n : Int) (a : Addr) (l : List Int), vs = [.int f, .int n, .ref a] ∧ (0 ≤ f ∧ f ≤ 2) ∧ SqL K H a (l.map V.int) ∧
  ∀ (b : Bool) H', (b = true ↔ isd n = true ∧ Cal.codes (Sw11.textOf f.toNat n) = l) → Same H H' → Q (.bl b) H' 
theorem sc_is_written : FnScope ["form", "day", "signs"] ["form", "day", "signs"] (defScope s_is_written) := ⟨rfl, rfl, rfl, by decide +kernel, rfl, by decide +kernel, by decide +kernel⟩
theorem bd_is_written : Bd "is_written" s_is_written ["form", "day", "signs"] := fun _ _ _ _ _ _ us hl => match us, hl with | [_, _, _], _ => rfl
theorem ok_is_written (T : Txt K mg) : Df P w K mg base "is_written" 8 ["form", "day", "signs"] (sp_is_written K) := by
  have D_is_day := ok_is_day (P := P) (w := w) (base := base) T
  have D_signs_of := ok_signs_of (P := P) (w := w) (base := base) T
  have D_text_of := ok_text_of (P := P) (w := w) (base := base) T
  refine T.f_is_written.df sc_is_written bd_is_written (fun vs H Q E h => ?_) (fun f cdv A outer s H vs Q E hr h => ?_)
  · obtain ⟨f, n, a, l, rfl, hf, hS, k⟩ := h
    rfl
  · obtain ⟨f, n, a, l, rfl, hf, hS, k⟩ := h
    refine ⟨_, (pss_one (ps_ret (pe_and (pe_df D_is_day (hr.mono (by decide)) rfl (pa_cons (pv 1) pa_nil)) (pe_one (pe_cmpR (op_eqD hr.units) (pe_df D_signs_of (hr.mono (by decide)) rfl (pa_cons (pe_df D_text_of (hr.mono (by decide)) rfl (pa_cons (pv 0) (pa_cons (pv 1) pa_nil))) pa_nil)) (pv 2) (nomark _)))))), ?_⟩
    refine ⟨_, rfl, _, rfl, _, rfl, ite2 (fun c => ?_) (fun c => ?_)⟩
    · have hl := codes_len (n := n) (f := f.toNat) (by omega) c
      refine ⟨_, rfl, _, rfl, _, _, rfl, hf, c, _, rfl, Nat.le_trans hl (by decide), fun H1 p hp h1 s1 => ?_⟩
      refine ⟨_, rfl, .list ((cI (cN (Sw11.textOf f.toNat n))).map PyData.int), .list (l.map PyData.int), .lst (SqL.of h1) (dp_ints _), .lst (s1.seq hS) (dp_ints _), shp _, shp _, k _ H1 ?_ s1⟩
      rw [eqv_ints, decide_eq_true_eq, cI_codes]
      exact ⟨fun q => ⟨c, q⟩, fun q => q.2⟩
    · exact k false H (no_of fun q => c q.1) (Same.refl _)
def sp_read (K : PySem.W.Frag) : Sp := fun vs H Q _ => ∃ (a : Addr) (l : List Int), vs = [.ref a] ∧ SqL K H a (l.map V.int) ∧ (∀ x ∈ l, 0 ≤ x ∧ x ≤ 255) ∧ ∀ (H' : Hp) (p : Addr), H' p = some (.lst ((PySw11.read l).map V.int)) → Q (.ref p) H'
theorem three {i : Nat} {x : V} (h : ([V.int 0, V.int 1, V.int 2] : List V)[i]? = some x) : i ≤ 2 ∧ x = V.int (i : Nat) := by
  match i, h with
  | 0, h => exact ⟨by omega, (Option.some.inj h).symm⟩
  | 1, h => exact ⟨by omega, (Option.some.inj h).symm⟩
  | 2, h => exact ⟨by omega, (Option.some.inj h).symm⟩
  | i + 3, h => simp at h
theorem sc_read : FnScope ["text", "form", "told"] ["text"] (defScope s_read) := ⟨rfl, rfl, rfl, by decide +kernel, rfl, by decide +kernel, by decide +kernel⟩
theorem bd_read : Bd "read" s_read ["text"] := fun _ _ _ _ _ _ us hl => match us, hl with | [_], _ => rfl
theorem ok_read {f : Addr} {fd : FuncData} (F : Fun K "read" "read" s_read f fd) (T : Txt K mg) : FnOk P w K mg base CX0 9 f fd ["text"] (sp_read K) := by
  have D_day_told := ok_day_told (P := P) (w := w) (base := base) T
  have D_is_number_of_signs := ok_is_number_of_signs (P := P) (w := w) (base := base) T
  have D_is_written := ok_is_written (P := P) (w := w) (base := base) T
  refine F.ok sc_read (fun vs H Q E h => ?_) (fun cdv A outer s H vs Q E hr h => ?_)
  · obtain ⟨a, l, rfl, hS, hb, k⟩ := h
    rfl
  · obtain ⟨a, l, rfl, hS, hb, k⟩ := h
    refine ⟨_, (pss_cons (ps_if (pt_not (pt_val (pe_df D_is_number_of_signs (hr.mono (by decide)) rfl (pa_cons (pe_callB call_len rfl T.b_len boot_len (pa_cons (pv 0) pa_nil)) pa_nil)))) (pss_one (ps_ret (pe_lst (pa_cons (pe_gi T.g_OUT_OF_RANGE rfl) pa_nil)))) pss_nil)
      (pss_cons (ps_for PassesOwn.never rfl (pi_tup (pe_tup (pa_cons (pe_gi T.g_BY_MONTH rfl) (pa_cons (pe_gi T.g_BY_WEEK rfl) (pa_cons (pe_gi T.g_BY_YEAR rfl) pa_nil))))) (pg_name (i := 1) sc_read.nd rfl (Or.inl rfl)) (pss_cons (ps_set (i := 2) sc_read.nd rfl (Or.inl rfl) (pe_df D_day_told (hr.mono (by decide)) rfl (pa_cons (pv 1) (pa_cons (pv 0) pa_nil))))
      (pss_one (ps_if (pt_val (pe_df D_is_written (hr.mono (by decide)) rfl (pa_cons (pv 1) (pa_cons (pv 2) (pa_cons (pv 0) pa_nil))))) (pss_one (ps_ret (pe_lst (pa_cons (pe_gi T.g_DONE rfl) (pa_cons (pv 2) pa_nil))))) pss_nil))))
      (pss_one (ps_ret (pe_lst (pa_cons (pe_gi T.g_NO_SUCH_DAY rfl) pa_nil)))))), ?_⟩
    have hlen : (l.map V.int).length = l.length := List.length_map _
    refine ⟨_, rfl, _, _, rfl, .inl ⟨_, hS, rfl⟩, _, rfl, _, rfl, ite2 (fun c => ?_) (fun c => ?_)⟩
    · have c := nT c
      unfold q_is_number_of_signs at c
      rw [decide_eq_false_iff_not, hlen] at c
      refine ⟨(by show 1 ≤ sizeLine; decide), fun p hp => k _ p ?_⟩
      rw [upd_same, Cal.read_long (by omega)]
      rfl
    have c := dT (nF c)
    rw [hlen] at c
    have hl : l.length ≤ 32 := by omega
    refine ⟨(by show 3 ≤ sizeLine; decide), fun t ht => ⟨t, rfl, ⟨_, SqT.of upd_same⟩, ?_⟩⟩
    have s0 : Same H (upd H t (.tup [V.int 0, V.int 1, V.int 2])) := Same.put ht
    refine for_tup (K := K) (a := t) (xs := [V.int 0, V.int 1, V.int 2]) (fun i σ H' => ∃ u v : Option V, σ = [some (.ref a), u, v] ∧ (∀ f : Nat, f < i → f ≤ 2 → isd (Cal.tld f l) = true → Cal.codes (Sw11.textOf f (Cal.tld f l)) ≠ l) ∧ Same (upd H t (.tup [V.int 0, V.int 1, V.int 2])) H')
      ⟨_, _, rfl, fun f hf => by omega, Same.refl _⟩ (fun i σ H' _ ⟨_, _, _, _, s⟩ => SqT.of (s _ _ upd_same)) ?_ ?_
    · rintro i x σ H' hi ⟨u, v, rfl, hh, s⟩
      obtain ⟨h2, rfl⟩ := three hi
      have sS := (s0.trans s).seq hS
      refine ⟨_, rfl, _, rfl, _, a, l, rfl, sS, fun H1 s1 => ?_⟩
      refine ⟨_, rfl, _, rfl, _, rfl, _, _, a, l, rfl, ⟨by omega, by omega⟩, s1.seq sS, fun b H2 hb2 s2 => ⟨_, rfl, ite2 (fun c1 => ?_) (fun c1 => ?_)⟩⟩
      · have q := hb2.mp c1
        refine ⟨_, rfl, (by show 2 ≤ sizeLine; decide), fun p hp => k _ p ?_⟩
        rw [upd_same, Cal.read_hit hl (f := i) h2 (dT q.1) (by have := q.2; rwa [Int.toNat_natCast] at this)]
        rfl
      · refine ⟨_, _, rfl, fun f hf hf2 hd e => ?_, (s.trans s1).trans s2⟩
        rcases (by omega : f < i ∨ f = i) with z | z
        · exact hh f z hf2 hd e
        · subst z
          exact c1 (hb2.mpr ⟨hd, by rw [Int.toNat_natCast]; exact e⟩)
    · rintro σ H' ⟨u, v, rfl, hh, s⟩
      refine ⟨(by show 1 ≤ sizeLine; decide), fun p hp => k _ p ?_⟩
      rw [upd_same, Cal.read_miss hl hb (fun f hf hd => hh f (by show f < 3; omega) hf (by unfold isd; exact decide_eq_true hd))]
      rfl
end
theorem txt_mk {K : PySem.W.Frag} {h : Heap} {mg : Str → Option Value} (X : K.In h) (G : h.Ns mainGlobals mg)
    {t0 : Tok} {t1 : Tok} {a2 : Addr} {od2 : Option Addr} {n2 : Nat} {sl2 : Array (Option Value)} {t2_0 t2_1 t2_2 t2_3 t2_4 t2_5 t2_6 t2_7 t2_8 t2_9 t2_10 t2_11 : Tok} {t3 : Tok} {t4 : Tok} {t5 : Tok} {t6 : Tok} {t7 : Tok} {t8 : Tok} {t9 : Tok} {t10 : Tok} {t11 : Tok} {t12 : Tok} {t13 : Tok} {t14 : Tok} {t15 : Tok} {t16 : Tok} {t17 : Tok} {t18 : Tok} {ff0 : Addr} {oc0 : Value} {odd0 an0 : Option Addr} {osl0 : Array (Option Value)} {kV0 doc0 pm0 cdv0 ct0 : Value} {ff1 : Addr} {oc1 : Value} {odd1 an1 : Option Addr} {osl1 : Array (Option Value)} {kV1 doc1 pm1 cdv1 ct1 : Value} {ff2 : Addr} {oc2 : Value} {odd2 an2 : Option Addr} {osl2 : Array (Option Value)} {kV2 doc2 pm2 cdv2 ct2 : Value} {ff3 : Addr} {oc3 : Value} {odd3 an3 : Option Addr} {osl3 : Array (Option Value)} {kV3 doc3 pm3 cdv3 ct3 : Value} {ff4 : Addr} {oc4 : Value} {odd4 an4 : Option Addr} {osl4 : Array (Option Value)} {kV4 doc4 pm4 cdv4 ct4 : Value} {ff5 : Addr} {oc5 : Value} {odd5 an5 : Option Addr} {osl5 : Array (Option Value)} {kV5 doc5 pm5 cdv5 ct5 : Value} {ff6 : Addr} {oc6 : Value} {odd6 an6 : Option Addr} {osl6 : Array (Option Value)} {kV6 doc6 pm6 cdv6 ct6 : Value} {ff7 : Addr} {oc7 : Value} {odd7 an7 : Option Addr} {osl7 : Array (Option Value)} {kV7 doc7 pm7 cdv7 ct7 : Value} {ff8 : Addr} {oc8 : Value} {odd8 an8 : Option Addr} {osl8 : Array (Option Value)} {kV8 doc8 pm8 cdv8 ct8 : Value} {ff9 : Addr} {oc9 : Value} {odd9 an9 : Option Addr} {osl9 : Array (Option Value)} {kV9 doc9 pm9 cdv9 ct9 : Value} {ff10 : Addr} {oc10 : Value} {odd10 an10 : Option Addr} {osl10 : Array (Option Value)} {kV10 doc10 pm10 cdv10 ct10 : Value} {ff11 : Addr} {oc11 : Value} {odd11 an11 : Option Addr} {osl11 : Array (Option Value)} {kV11 doc11 pm11 cdv11 ct11 : Value} {ff12 : Addr} {oc12 : Value} {odd12 an12 : Option Addr} {osl12 : Array (Option Value)} {kV12 doc12 pm12 cdv12 ct12 : Value} {ff13 : Addr} {oc13 : Value} {odd13 an13 : Option Addr} {osl13 : Array (Option Value)} {kV13 doc13 pm13 cdv13 ct13 : Value} {ff14 : Addr} {oc14 : Value} {odd14 an14 : Option Addr} {osl14 : Array (Option Value)} {kV14 doc14 pm14 cdv14 ct14 : Value} {ff15 : Addr} {oc15 : Value} {odd15 an15 : Option Addr} {osl15 : Array (Option Value)} {kV15 doc15 pm15 cdv15 ct15 : Value} {ff16 : Addr} {oc16 : Value} {odd16 an16 : Option Addr} {osl16 : Array (Option Value)} {kV16 doc16 pm16 cdv16 ct16 : Value} {ff17 : Addr} {oc17 : Value} {odd17 an17 : Option Addr} {osl17 : Array (Option Value)} {kV17 doc17 pm17 cdv17 ct17 : Value} {ff18 : Addr} {oc18 : Value} {odd18 an18 : Option Addr} {osl18 : Array (Option Value)} {kV18 doc18 pm18 cdv18 ct18 : Value} {ff19 : Addr} {oc19 : Value} {odd19 an19 : Option Addr} {osl19 : Array (Option Value)} {kV19 doc19 pm19 cdv19 ct19 : Value} {ff20 : Addr} {oc20 : Value} {odd20 an20 : Option Addr} {osl20 : Array (Option Value)} {kV20 doc20 pm20 cdv20 ct20 : Value} {ff21 : Addr} {oc21 : Value} {odd21 an21 : Option Addr} {osl21 : Array (Option Value)} {kV21 doc21 pm21 cdv21 ct21 : Value} {ff22 : Addr} {oc22 : Value} {odd22 an22 : Option Addr} {osl22 : Array (Option Value)} {kV22 doc22 pm22 cdv22 ct22 : Value} {ff23 : Addr} {oc23 : Value} {odd23 an23 : Option Addr} {osl23 : Array (Option Value)} {kV23 doc23 pm23 cdv23 ct23 : Value} {ff24 : Addr} {oc24 : Value} {odd24 an24 : Option Addr} {osl24 : Array (Option Value)} {kV24 doc24 pm24 cdv24 ct24 : Value} {ff25 : Addr} {oc25 : Value} {odd25 an25 : Option Addr} {osl25 : Array (Option Value)} {kV25 doc25 pm25 cdv25 ct25 : Value} {ff26 : Addr} {oc26 : Value} {odd26 an26 : Option Addr} {osl26 : Array (Option Value)} {kV26 doc26 pm26 cdv26 ct26 : Value} {ff27 : Addr} {oc27 : Value} {odd27 an27 : Option Addr} {osl27 : Array (Option Value)} {kV27 doc27 pm27 cdv27 ct27 : Value} {ff28 : Addr} {oc28 : Value} {odd28 an28 : Option Addr} {osl28 : Array (Option Value)} {kV28 doc28 pm28 cdv28 ct28 : Value} {ff29 : Addr} {oc29 : Value} {odd29 an29 : Option Addr} {osl29 : Array (Option Value)} {kV29 doc29 pm29 cdv29 ct29 : Value} {ff30 : Addr} {oc30 : Value} {odd30 an30 : Option Addr} {osl30 : Array (Option Value)} {kV30 doc30 pm30 cdv30 ct30 : Value}
    (g0 : PySem.W.nsIn K mainGlobals "FIRST" = some (some (.int (-365961662) t0)))
    (g1 : PySem.W.nsIn K mainGlobals "LAST" = some (some (.int 364522971 t1)))
    (ga2 : PySem.W.nsIn K mainGlobals "DAYS_BEFORE_MONTH" = some (some (.ref a2)))
    (gl2 : K.lookup a2 = some ⟨.type "tuple", od2, .seq #[.int 0 t2_0, .int 31 t2_1, .int 59 t2_2, .int 90 t2_3, .int 120 t2_4, .int 151 t2_5, .int 181 t2_6, .int 212 t2_7, .int 243 t2_8, .int 273 t2_9, .int 304 t2_10, .int 334 t2_11] n2, sl2⟩)
    (g3 : PySem.W.nsIn K mainGlobals "DAYS_IN_YEAR" = some (some (.int 365 t3)))
    (g4 : PySem.W.nsIn K mainGlobals "DAYS_IN_4_YEARS" = some (some (.int 1461 t4)))
    (g5 : PySem.W.nsIn K mainGlobals "DAYS_IN_100_YEARS" = some (some (.int 36524 t5)))
    (g6 : PySem.W.nsIn K mainGlobals "DAYS_IN_400_YEARS" = some (some (.int 146097 t6)))
    (g7 : PySem.W.nsIn K mainGlobals "FIRST_OF_YEAR_1" = some (some (.int (-719162) t7)))
    (g8 : PySem.W.nsIn K mainGlobals "MONTHS_IN_YEAR" = some (some (.int 12 t8)))
    (g9 : PySem.W.nsIn K mainGlobals "DAYS_IN_WEEK" = some (some (.int 7 t9)))
    (g10 : PySem.W.nsIn K mainGlobals "MOST_SIGNS" = some (some (.int 32 t10)))
    (g11 : PySem.W.nsIn K mainGlobals "BY_MONTH" = some (some (.int 0 t11)))
    (g12 : PySem.W.nsIn K mainGlobals "BY_WEEK" = some (some (.int 1 t12)))
    (g13 : PySem.W.nsIn K mainGlobals "BY_YEAR" = some (some (.int 2 t13)))
    (g14 : PySem.W.nsIn K mainGlobals "MINUS" = some (some (.int 45 t14)))
    (g15 : PySem.W.nsIn K mainGlobals "DIGIT_0" = some (some (.int 48 t15)))
    (g16 : PySem.W.nsIn K mainGlobals "DONE" = some (some (.int 0 t16)))
    (g17 : PySem.W.nsIn K mainGlobals "NO_SUCH_DAY" = some (some (.int (-1) t17)))
    (g18 : PySem.W.nsIn K mainGlobals "OUT_OF_RANGE" = some (some (.int (-2) t18)))
    (z0 : PySem.W.nsIn K mainGlobals "abs" = some none)
    (z1 : PySem.W.nsIn K mainGlobals "len" = some none)
    (z2 : PySem.W.nsIn K mainGlobals "min" = some none)
    (z3 : PySem.W.nsIn K mainGlobals "ord" = some none)
    (z4 : PySem.W.nsIn K mainGlobals "str" = some none)
    (fa0 : PySem.W.nsIn K mainGlobals "is_long" = some (some (.ref ff0)))
    (fl0 : K.lookup ff0 = some ⟨oc0, odd0, .func (PySem.W.fnOf "is_long" "is_long" (defArgs s_is_long) (defBody s_is_long) (defScope s_is_long) .none kV0 doc0 pm0 an0 cdv0 ct0), osl0⟩)
    (fc0 : PySem.W.codeIn K cdv0 "is_long" = true)
    (fk0 : PySem.W.keepIn K (.ref ff0) = true)
    (fa1 : PySem.W.nsIn K mainGlobals "is_day" = some (some (.ref ff1)))
    (fl1 : K.lookup ff1 = some ⟨oc1, odd1, .func (PySem.W.fnOf "is_day" "is_day" (defArgs s_is_day) (defBody s_is_day) (defScope s_is_day) .none kV1 doc1 pm1 an1 cdv1 ct1), osl1⟩)
    (fc1 : PySem.W.codeIn K cdv1 "is_day" = true)
    (fk1 : PySem.W.keepIn K (.ref ff1) = true)
    (fa2 : PySem.W.nsIn K mainGlobals "first_of_year" = some (some (.ref ff2)))
    (fl2 : K.lookup ff2 = some ⟨oc2, odd2, .func (PySem.W.fnOf "first_of_year" "first_of_year" (defArgs s_first_of_year) (defBody s_first_of_year) (defScope s_first_of_year) .none kV2 doc2 pm2 an2 cdv2 ct2), osl2⟩)
    (fc2 : PySem.W.codeIn K cdv2 "first_of_year" = true)
    (fk2 : PySem.W.keepIn K (.ref ff2) = true)
    (fa3 : PySem.W.nsIn K mainGlobals "first_of_month" = some (some (.ref ff3)))
    (fl3 : K.lookup ff3 = some ⟨oc3, odd3, .func (PySem.W.fnOf "first_of_month" "first_of_month" (defArgs s_first_of_month) (defBody s_first_of_month) (defScope s_first_of_month) .none kV3 doc3 pm3 an3 cdv3 ct3), osl3⟩)
    (fc3 : PySem.W.codeIn K cdv3 "first_of_month" = true)
    (fk3 : PySem.W.keepIn K (.ref ff3) = true)
    (fa4 : PySem.W.nsIn K mainGlobals "year_of" = some (some (.ref ff4)))
    (fl4 : K.lookup ff4 = some ⟨oc4, odd4, .func (PySem.W.fnOf "year_of" "year_of" (defArgs s_year_of) (defBody s_year_of) (defScope s_year_of) .none kV4 doc4 pm4 an4 cdv4 ct4), osl4⟩)
    (fc4 : PySem.W.codeIn K cdv4 "year_of" = true)
    (fk4 : PySem.W.keepIn K (.ref ff4) = true)
    (fa5 : PySem.W.nsIn K mainGlobals "month_of" = some (some (.ref ff5)))
    (fl5 : K.lookup ff5 = some ⟨oc5, odd5, .func (PySem.W.fnOf "month_of" "month_of" (defArgs s_month_of) (defBody s_month_of) (defScope s_month_of) .none kV5 doc5 pm5 an5 cdv5 ct5), osl5⟩)
    (fc5 : PySem.W.codeIn K cdv5 "month_of" = true)
    (fk5 : PySem.W.keepIn K (.ref ff5) = true)
    (fa6 : PySem.W.nsIn K mainGlobals "number_of_month" = some (some (.ref ff6)))
    (fl6 : K.lookup ff6 = some ⟨oc6, odd6, .func (PySem.W.fnOf "number_of_month" "number_of_month" (defArgs s_number_of_month) (defBody s_number_of_month) (defScope s_number_of_month) .none kV6 doc6 pm6 an6 cdv6 ct6), osl6⟩)
    (fc6 : PySem.W.codeIn K cdv6 "number_of_month" = true)
    (fk6 : PySem.W.keepIn K (.ref ff6) = true)
    (fa7 : PySem.W.nsIn K mainGlobals "first_of_numbered" = some (some (.ref ff7)))
    (fl7 : K.lookup ff7 = some ⟨oc7, odd7, .func (PySem.W.fnOf "first_of_numbered" "first_of_numbered" (defArgs s_first_of_numbered) (defBody s_first_of_numbered) (defScope s_first_of_numbered) .none kV7 doc7 pm7 an7 cdv7 ct7), osl7⟩)
    (fc7 : PySem.W.codeIn K cdv7 "first_of_numbered" = true)
    (fk7 : PySem.W.keepIn K (.ref ff7) = true)
    (fa8 : PySem.W.nsIn K mainGlobals "days_into_month" = some (some (.ref ff8)))
    (fl8 : K.lookup ff8 = some ⟨oc8, odd8, .func (PySem.W.fnOf "days_into_month" "days_into_month" (defArgs s_days_into_month) (defBody s_days_into_month) (defScope s_days_into_month) .none kV8 doc8 pm8 an8 cdv8 ct8), osl8⟩)
    (fc8 : PySem.W.codeIn K cdv8 "days_into_month" = true)
    (fk8 : PySem.W.keepIn K (.ref ff8) = true)
    (fa9 : PySem.W.nsIn K mainGlobals "day_of_week" = some (some (.ref ff9)))
    (fl9 : K.lookup ff9 = some ⟨oc9, odd9, .func (PySem.W.fnOf "day_of_week" "day_of_week" (defArgs s_day_of_week) (defBody s_day_of_week) (defScope s_day_of_week) .none kV9 doc9 pm9 an9 cdv9 ct9), osl9⟩)
    (fc9 : PySem.W.codeIn K cdv9 "day_of_week" = true)
    (fk9 : PySem.W.keepIn K (.ref ff9) = true)
    (fa10 : PySem.W.nsIn K mainGlobals "first_of_week" = some (some (.ref ff10)))
    (fl10 : K.lookup ff10 = some ⟨oc10, odd10, .func (PySem.W.fnOf "first_of_week" "first_of_week" (defArgs s_first_of_week) (defBody s_first_of_week) (defScope s_first_of_week) .none kV10 doc10 pm10 an10 cdv10 ct10), osl10⟩)
    (fc10 : PySem.W.codeIn K cdv10 "first_of_week" = true)
    (fk10 : PySem.W.keepIn K (.ref ff10) = true)
    (fa11 : PySem.W.nsIn K mainGlobals "first_of_week_1" = some (some (.ref ff11)))
    (fl11 : K.lookup ff11 = some ⟨oc11, odd11, .func (PySem.W.fnOf "first_of_week_1" "first_of_week_1" (defArgs s_first_of_week_1) (defBody s_first_of_week_1) (defScope s_first_of_week_1) .none kV11 doc11 pm11 an11 cdv11 ct11), osl11⟩)
    (fc11 : PySem.W.codeIn K cdv11 "first_of_week_1" = true)
    (fk11 : PySem.W.keepIn K (.ref ff11) = true)
    (fa12 : PySem.W.nsIn K mainGlobals "year_of_week" = some (some (.ref ff12)))
    (fl12 : K.lookup ff12 = some ⟨oc12, odd12, .func (PySem.W.fnOf "year_of_week" "year_of_week" (defArgs s_year_of_week) (defBody s_year_of_week) (defScope s_year_of_week) .none kV12 doc12 pm12 an12 cdv12 ct12), osl12⟩)
    (fc12 : PySem.W.codeIn K cdv12 "year_of_week" = true)
    (fk12 : PySem.W.keepIn K (.ref ff12) = true)
    (fa13 : PySem.W.nsIn K mainGlobals "week_of_year" = some (some (.ref ff13)))
    (fl13 : K.lookup ff13 = some ⟨oc13, odd13, .func (PySem.W.fnOf "week_of_year" "week_of_year" (defArgs s_week_of_year) (defBody s_week_of_year) (defScope s_week_of_year) .none kV13 doc13 pm13 an13 cdv13 ct13), osl13⟩)
    (fc13 : PySem.W.codeIn K cdv13 "week_of_year" = true)
    (fk13 : PySem.W.keepIn K (.ref ff13) = true)
    (fa14 : PySem.W.nsIn K mainGlobals "day_of_week_date" = some (some (.ref ff14)))
    (fl14 : K.lookup ff14 = some ⟨oc14, odd14, .func (PySem.W.fnOf "day_of_week_date" "day_of_week_date" (defArgs s_day_of_week_date) (defBody s_day_of_week_date) (defScope s_day_of_week_date) .none kV14 doc14 pm14 an14 cdv14 ct14), osl14⟩)
    (fc14 : PySem.W.codeIn K cdv14 "day_of_week_date" = true)
    (fk14 : PySem.W.keepIn K (.ref ff14) = true)
    (fa15 : PySem.W.nsIn K mainGlobals "is_number_of_signs" = some (some (.ref ff15)))
    (fl15 : K.lookup ff15 = some ⟨oc15, odd15, .func (PySem.W.fnOf "is_number_of_signs" "is_number_of_signs" (defArgs s_is_number_of_signs) (defBody s_is_number_of_signs) (defScope s_is_number_of_signs) .none kV15 doc15 pm15 an15 cdv15 ct15), osl15⟩)
    (fc15 : PySem.W.codeIn K cdv15 "is_number_of_signs" = true)
    (fk15 : PySem.W.keepIn K (.ref ff15) = true)
    (fa16 : PySem.W.nsIn K mainGlobals "digits_of" = some (some (.ref ff16)))
    (fl16 : K.lookup ff16 = some ⟨oc16, odd16, .func (PySem.W.fnOf "digits_of" "digits_of" (defArgs s_digits_of) (defBody s_digits_of) (defScope s_digits_of) .none kV16 doc16 pm16 an16 cdv16 ct16), osl16⟩)
    (fc16 : PySem.W.codeIn K cdv16 "digits_of" = true)
    (fk16 : PySem.W.keepIn K (.ref ff16) = true)
    (fa17 : PySem.W.nsIn K mainGlobals "year_text" = some (some (.ref ff17)))
    (fl17 : K.lookup ff17 = some ⟨oc17, odd17, .func (PySem.W.fnOf "year_text" "year_text" (defArgs s_year_text) (defBody s_year_text) (defScope s_year_text) .none kV17 doc17 pm17 an17 cdv17 ct17), osl17⟩)
    (fc17 : PySem.W.codeIn K cdv17 "year_text" = true)
    (fk17 : PySem.W.keepIn K (.ref ff17) = true)
    (fa18 : PySem.W.nsIn K mainGlobals "text_by_month" = some (some (.ref ff18)))
    (fl18 : K.lookup ff18 = some ⟨oc18, odd18, .func (PySem.W.fnOf "text_by_month" "text_by_month" (defArgs s_text_by_month) (defBody s_text_by_month) (defScope s_text_by_month) .none kV18 doc18 pm18 an18 cdv18 ct18), osl18⟩)
    (fc18 : PySem.W.codeIn K cdv18 "text_by_month" = true)
    (fk18 : PySem.W.keepIn K (.ref ff18) = true)
    (fa19 : PySem.W.nsIn K mainGlobals "text_by_week" = some (some (.ref ff19)))
    (fl19 : K.lookup ff19 = some ⟨oc19, odd19, .func (PySem.W.fnOf "text_by_week" "text_by_week" (defArgs s_text_by_week) (defBody s_text_by_week) (defScope s_text_by_week) .none kV19 doc19 pm19 an19 cdv19 ct19), osl19⟩)
    (fc19 : PySem.W.codeIn K cdv19 "text_by_week" = true)
    (fk19 : PySem.W.keepIn K (.ref ff19) = true)
    (fa20 : PySem.W.nsIn K mainGlobals "text_by_year" = some (some (.ref ff20)))
    (fl20 : K.lookup ff20 = some ⟨oc20, odd20, .func (PySem.W.fnOf "text_by_year" "text_by_year" (defArgs s_text_by_year) (defBody s_text_by_year) (defScope s_text_by_year) .none kV20 doc20 pm20 an20 cdv20 ct20), osl20⟩)
    (fc20 : PySem.W.codeIn K cdv20 "text_by_year" = true)
    (fk20 : PySem.W.keepIn K (.ref ff20) = true)
    (fa21 : PySem.W.nsIn K mainGlobals "text_of" = some (some (.ref ff21)))
    (fl21 : K.lookup ff21 = some ⟨oc21, odd21, .func (PySem.W.fnOf "text_of" "text_of" (defArgs s_text_of) (defBody s_text_of) (defScope s_text_of) .none kV21 doc21 pm21 an21 cdv21 ct21), osl21⟩)
    (fc21 : PySem.W.codeIn K cdv21 "text_of" = true)
    (fk21 : PySem.W.keepIn K (.ref ff21) = true)
    (fa22 : PySem.W.nsIn K mainGlobals "signs_of" = some (some (.ref ff22)))
    (fl22 : K.lookup ff22 = some ⟨oc22, odd22, .func (PySem.W.fnOf "signs_of" "signs_of" (defArgs s_signs_of) (defBody s_signs_of) (defScope s_signs_of) .none kV22 doc22 pm22 an22 cdv22 ct22), osl22⟩)
    (fc22 : PySem.W.codeIn K cdv22 "signs_of" = true)
    (fk22 : PySem.W.keepIn K (.ref ff22) = true)
    (fa23 : PySem.W.nsIn K mainGlobals "number_told" = some (some (.ref ff23)))
    (fl23 : K.lookup ff23 = some ⟨oc23, odd23, .func (PySem.W.fnOf "number_told" "number_told" (defArgs s_number_told) (defBody s_number_told) (defScope s_number_told) .none kV23 doc23 pm23 an23 cdv23 ct23), osl23⟩)
    (fc23 : PySem.W.codeIn K cdv23 "number_told" = true)
    (fk23 : PySem.W.keepIn K (.ref ff23) = true)
    (fa24 : PySem.W.nsIn K mainGlobals "year_told" = some (some (.ref ff24)))
    (fl24 : K.lookup ff24 = some ⟨oc24, odd24, .func (PySem.W.fnOf "year_told" "year_told" (defArgs s_year_told) (defBody s_year_told) (defScope s_year_told) .none kV24 doc24 pm24 an24 cdv24 ct24), osl24⟩)
    (fc24 : PySem.W.codeIn K cdv24 "year_told" = true)
    (fk24 : PySem.W.keepIn K (.ref ff24) = true)
    (fa25 : PySem.W.nsIn K mainGlobals "told_by_month" = some (some (.ref ff25)))
    (fl25 : K.lookup ff25 = some ⟨oc25, odd25, .func (PySem.W.fnOf "told_by_month" "told_by_month" (defArgs s_told_by_month) (defBody s_told_by_month) (defScope s_told_by_month) .none kV25 doc25 pm25 an25 cdv25 ct25), osl25⟩)
    (fc25 : PySem.W.codeIn K cdv25 "told_by_month" = true)
    (fk25 : PySem.W.keepIn K (.ref ff25) = true)
    (fa26 : PySem.W.nsIn K mainGlobals "told_by_week" = some (some (.ref ff26)))
    (fl26 : K.lookup ff26 = some ⟨oc26, odd26, .func (PySem.W.fnOf "told_by_week" "told_by_week" (defArgs s_told_by_week) (defBody s_told_by_week) (defScope s_told_by_week) .none kV26 doc26 pm26 an26 cdv26 ct26), osl26⟩)
    (fc26 : PySem.W.codeIn K cdv26 "told_by_week" = true)
    (fk26 : PySem.W.keepIn K (.ref ff26) = true)
    (fa27 : PySem.W.nsIn K mainGlobals "told_by_year" = some (some (.ref ff27)))
    (fl27 : K.lookup ff27 = some ⟨oc27, odd27, .func (PySem.W.fnOf "told_by_year" "told_by_year" (defArgs s_told_by_year) (defBody s_told_by_year) (defScope s_told_by_year) .none kV27 doc27 pm27 an27 cdv27 ct27), osl27⟩)
    (fc27 : PySem.W.codeIn K cdv27 "told_by_year" = true)
    (fk27 : PySem.W.keepIn K (.ref ff27) = true)
    (fa28 : PySem.W.nsIn K mainGlobals "day_told" = some (some (.ref ff28)))
    (fl28 : K.lookup ff28 = some ⟨oc28, odd28, .func (PySem.W.fnOf "day_told" "day_told" (defArgs s_day_told) (defBody s_day_told) (defScope s_day_told) .none kV28 doc28 pm28 an28 cdv28 ct28), osl28⟩)
    (fc28 : PySem.W.codeIn K cdv28 "day_told" = true)
    (fk28 : PySem.W.keepIn K (.ref ff28) = true)
    (fa29 : PySem.W.nsIn K mainGlobals "is_written" = some (some (.ref ff29)))
    (fl29 : K.lookup ff29 = some ⟨oc29, odd29, .func (PySem.W.fnOf "is_written" "is_written" (defArgs s_is_written) (defBody s_is_written) (defScope s_is_written) .none kV29 doc29 pm29 an29 cdv29 ct29), osl29⟩)
    (fc29 : PySem.W.codeIn K cdv29 "is_written" = true)
    (fk29 : PySem.W.keepIn K (.ref ff29) = true)
    (fa30 : PySem.W.nsIn K mainGlobals "read" = some (some (.ref ff30)))
    (fl30 : K.lookup ff30 = some ⟨oc30, odd30, .func (PySem.W.fnOf "read" "read" (defArgs s_read) (defBody s_read) (defScope s_read) .none kV30 doc30 pm30 an30 cdv30 ct30), osl30⟩)
    (fc30 : PySem.W.codeIn K cdv30 "read" = true)
    (fk30 : PySem.W.keepIn K (.ref ff30) = true) :
    Txt K mg :=
  ⟨gi_mk X G g0, gi_mk X G g1, gt_mk X G ga2 gl2 (by show 12 ≤ sizeLine; decide) (.cons ⟨_, rfl⟩ (.cons ⟨_, rfl⟩ (.cons ⟨_, rfl⟩ (.cons ⟨_, rfl⟩ (.cons ⟨_, rfl⟩ (.cons ⟨_, rfl⟩ (.cons ⟨_, rfl⟩ (.cons ⟨_, rfl⟩ (.cons ⟨_, rfl⟩ (.cons ⟨_, rfl⟩ (.cons ⟨_, rfl⟩ (.cons ⟨_, rfl⟩ (.nil))))))))))))), gi_mk X G g3, gi_mk X G g4, gi_mk X G g5, gi_mk X G g6, gi_mk X G g7, gi_mk X G g8, gi_mk X G g9, gi_mk X G g10, gi_mk X G g11, gi_mk X G g12, gi_mk X G g13, gi_mk X G g14, gi_mk X G g15, gi_mk X G g16, gi_mk X G g17, gi_mk X G g18, PySem.W.mg_none_of X G z0, PySem.W.mg_none_of X G z1, PySem.W.mg_none_of X G z2, PySem.W.mg_none_of X G z3, PySem.W.mg_none_of X G z4, raw_mk X G fa0 fl0 fc0 fk0, raw_mk X G fa1 fl1 fc1 fk1, raw_mk X G fa2 fl2 fc2 fk2, raw_mk X G fa3 fl3 fc3 fk3, raw_mk X G fa4 fl4 fc4 fk4, raw_mk X G fa5 fl5 fc5 fk5, raw_mk X G fa6 fl6 fc6 fk6, raw_mk X G fa7 fl7 fc7 fk7, raw_mk X G fa8 fl8 fc8 fk8, raw_mk X G fa9 fl9 fc9 fk9, raw_mk X G fa10 fl10 fc10 fk10, raw_mk X G fa11 fl11 fc11 fk11, raw_mk X G fa12 fl12 fc12 fk12, raw_mk X G fa13 fl13 fc13 fk13, raw_mk X G fa14 fl14 fc14 fk14, raw_mk X G fa15 fl15 fc15 fk15, raw_mk X G fa16 fl16 fc16 fk16, raw_mk X G fa17 fl17 fc17 fk17, raw_mk X G fa18 fl18 fc18 fk18, raw_mk X G fa19 fl19 fc19 fk19, raw_mk X G fa20 fl20 fc20 fk20, raw_mk X G fa21 fl21 fc21 fk21, raw_mk X G fa22 fl22 fc22 fk22, raw_mk X G fa23 fl23 fc23 fk23, raw_mk X G fa24 fl24 fc24 fk24, raw_mk X G fa25 fl25 fc25 fk25, raw_mk X G fa26 fl26 fc26 fk26, raw_mk X G fa27 fl27 fc27 fk27, raw_mk X G fa28 fl28 fc28 fk28, raw_mk X G fa29 fl29 fc29 fk29, raw_mk X G fa30 fl30 fc30 fk30⟩
end Dr
open PySem PySem.W PyProof.Rows
set_option maxRecDepth 100000 in
set_option maxHeartbeats 0 in
theorem PySem.Challenge.cw_dayround_s09_read_holds : PySem.Challenge.rw_dayround_s09_read.Holds := by
  w_on; k_headS; (case hw => exact ⟨[.list []], by decide +kernel, by decide +kernel⟩)
  k_fillS
  refine L2.walk_specK (r := PySem.Challenge.rw_dayround_s09_read) (k := 9) (CX := L2.CX0) (ps := ["text"]) (sp := Dr.sp_read) (by decide +kernel) rfl rfl ⟨rfl, by decide, by decide⟩ (fun w h Y => PySem.W.kIn_of Y) ?F ?S (fun _ _ _ _ z => z)
  case F =>
    intro w mg fa h Y KX G hmg
    have T : Dr.Txt (L2.KOf KX) mg := by
      dsimp only [L2.KOf]
      refine' Dr.txt_mk KX G ?dr_g0 ?dr_g1 ?dr_ga2 ?dr_gl2 ?dr_g3 ?dr_g4 ?dr_g5 ?dr_g6 ?dr_g7 ?dr_g8 ?dr_g9 ?dr_g10 ?dr_g11 ?dr_g12 ?dr_g13 ?dr_g14 ?dr_g15 ?dr_g16 ?dr_g17 ?dr_g18 ?dr_z0 ?dr_z1 ?dr_z2 ?dr_z3 ?dr_z4 ?dr_fa0 ?dr_fl0 ?dr_fc0 ?dr_fk0 ?dr_fa1 ?dr_fl1 ?dr_fc1 ?dr_fk1 ?dr_fa2 ?dr_fl2 ?dr_fc2 ?dr_fk2 ?dr_fa3 ?dr_fl3 ?dr_fc3 ?dr_fk3 ?dr_fa4 ?dr_fl4 ?dr_fc4 ?dr_fk4 ?dr_fa5 ?dr_fl5 ?dr_fc5 ?dr_fk5 ?dr_fa6 ?dr_fl6 ?dr_fc6 ?dr_fk6 ?dr_fa7 ?dr_fl7 ?dr_fc7 ?dr_fk7 ?dr_fa8 ?dr_fl8 ?dr_fc8 ?dr_fk8 ?dr_fa9 ?dr_fl9 ?dr_fc9 ?dr_fk9 ?dr_fa10 ?dr_fl10 ?dr_fc10 ?dr_fk10 ?dr_fa11 ?dr_fl11 ?dr_fc11 ?dr_fk11 ?dr_fa12 ?dr_fl12 ?dr_fc12 ?dr_fk12 ?dr_fa13 ?dr_fl13 ?dr_fc13 ?dr_fk13 ?dr_fa14 ?dr_fl14 ?dr_fc14 ?dr_fk14 ?dr_fa15 ?dr_fl15 ?dr_fc15 ?dr_fk15 ?dr_fa16 ?dr_fl16 ?dr_fc16 ?dr_fk16 ?dr_fa17 ?dr_fl17 ?dr_fc17 ?dr_fk17 ?dr_fa18 ?dr_fl18 ?dr_fc18 ?dr_fk18 ?dr_fa19 ?dr_fl19 ?dr_fc19 ?dr_fk19 ?dr_fa20 ?dr_fl20 ?dr_fc20 ?dr_fk20 ?dr_fa21 ?dr_fl21 ?dr_fc21 ?dr_fk21 ?dr_fa22 ?dr_fl22 ?dr_fc22 ?dr_fk22 ?dr_fa23 ?dr_fl23 ?dr_fc23 ?dr_fk23 ?dr_fa24 ?dr_fl24 ?dr_fc24 ?dr_fk24 ?dr_fa25 ?dr_fl25 ?dr_fc25 ?dr_fk25 ?dr_fa26 ?dr_fl26 ?dr_fc26 ?dr_fk26 ?dr_fa27 ?dr_fl27 ?dr_fc27 ?dr_fk27 ?dr_fa28 ?dr_fl28 ?dr_fc28 ?dr_fk28 ?dr_fa29 ?dr_fl29 ?dr_fc29 ?dr_fk29 ?dr_fa30 ?dr_fl30 ?dr_fc30 ?dr_fk30
      (case dr_g0 => k_is)
      (case dr_g1 => k_is)
      (case dr_ga2 => k_is)
      (case dr_gl2 => k_is)
      (case dr_g3 => k_is)
      (case dr_g4 => k_is)
      (case dr_g5 => k_is)
      (case dr_g6 => k_is)
      (case dr_g7 => k_is)
      (case dr_g8 => k_is)
      (case dr_g9 => k_is)
      (case dr_g10 => k_is)
      (case dr_g11 => k_is)
      (case dr_g12 => k_is)
      (case dr_g13 => k_is)
      (case dr_g14 => k_is)
      (case dr_g15 => k_is)
      (case dr_g16 => k_is)
      (case dr_g17 => k_is)
      (case dr_g18 => k_is)
      (case dr_z0 => k_is)
      (case dr_z1 => k_is)
      (case dr_z2 => k_is)
      (case dr_z3 => k_is)
      (case dr_z4 => k_is)
      (case dr_fa0 => k_is)
      (case dr_fl0 => k_is)
      (case dr_fc0 => k_is)
      (case dr_fk0 => k_is)
      (case dr_fa1 => k_is)
      (case dr_fl1 => k_is)
      (case dr_fc1 => k_is)
      (case dr_fk1 => k_is)
      (case dr_fa2 => k_is)
      (case dr_fl2 => k_is)
      (case dr_fc2 => k_is)
      (case dr_fk2 => k_is)
      (case dr_fa3 => k_is)
      (case dr_fl3 => k_is)
      (case dr_fc3 => k_is)
      (case dr_fk3 => k_is)
      (case dr_fa4 => k_is)
      (case dr_fl4 => k_is)
      (case dr_fc4 => k_is)
      (case dr_fk4 => k_is)
      (case dr_fa5 => k_is)
      (case dr_fl5 => k_is)
      (case dr_fc5 => k_is)
      (case dr_fk5 => k_is)
      (case dr_fa6 => k_is)
      (case dr_fl6 => k_is)
      (case dr_fc6 => k_is)
      (case dr_fk6 => k_is)
      (case dr_fa7 => k_is)
      (case dr_fl7 => k_is)
      (case dr_fc7 => k_is)
      (case dr_fk7 => k_is)
      (case dr_fa8 => k_is)
      (case dr_fl8 => k_is)
      (case dr_fc8 => k_is)
      (case dr_fk8 => k_is)
      (case dr_fa9 => k_is)
      (case dr_fl9 => k_is)
      (case dr_fc9 => k_is)
      (case dr_fk9 => k_is)
      (case dr_fa10 => k_is)
      (case dr_fl10 => k_is)
      (case dr_fc10 => k_is)
      (case dr_fk10 => k_is)
      (case dr_fa11 => k_is)
      (case dr_fl11 => k_is)
      (case dr_fc11 => k_is)
      (case dr_fk11 => k_is)
      (case dr_fa12 => k_is)
      (case dr_fl12 => k_is)
      (case dr_fc12 => k_is)
      (case dr_fk12 => k_is)
      (case dr_fa13 => k_is)
      (case dr_fl13 => k_is)
      (case dr_fc13 => k_is)
      (case dr_fk13 => k_is)
      (case dr_fa14 => k_is)
      (case dr_fl14 => k_is)
      (case dr_fc14 => k_is)
      (case dr_fk14 => k_is)
      (case dr_fa15 => k_is)
      (case dr_fl15 => k_is)
      (case dr_fc15 => k_is)
      (case dr_fk15 => k_is)
      (case dr_fa16 => k_is)
      (case dr_fl16 => k_is)
      (case dr_fc16 => k_is)
      (case dr_fk16 => k_is)
      (case dr_fa17 => k_is)
      (case dr_fl17 => k_is)
      (case dr_fc17 => k_is)
      (case dr_fk17 => k_is)
      (case dr_fa18 => k_is)
      (case dr_fl18 => k_is)
      (case dr_fc18 => k_is)
      (case dr_fk18 => k_is)
      (case dr_fa19 => k_is)
      (case dr_fl19 => k_is)
      (case dr_fc19 => k_is)
      (case dr_fk19 => k_is)
      (case dr_fa20 => k_is)
      (case dr_fl20 => k_is)
      (case dr_fc20 => k_is)
      (case dr_fk20 => k_is)
      (case dr_fa21 => k_is)
      (case dr_fl21 => k_is)
      (case dr_fc21 => k_is)
      (case dr_fk21 => k_is)
      (case dr_fa22 => k_is)
      (case dr_fl22 => k_is)
      (case dr_fc22 => k_is)
      (case dr_fk22 => k_is)
      (case dr_fa23 => k_is)
      (case dr_fl23 => k_is)
      (case dr_fc23 => k_is)
      (case dr_fk23 => k_is)
      (case dr_fa24 => k_is)
      (case dr_fl24 => k_is)
      (case dr_fc24 => k_is)
      (case dr_fk24 => k_is)
      (case dr_fa25 => k_is)
      (case dr_fl25 => k_is)
      (case dr_fc25 => k_is)
      (case dr_fk25 => k_is)
      (case dr_fa26 => k_is)
      (case dr_fl26 => k_is)
      (case dr_fc26 => k_is)
      (case dr_fk26 => k_is)
      (case dr_fa27 => k_is)
      (case dr_fl27 => k_is)
      (case dr_fc27 => k_is)
      (case dr_fk27 => k_is)
      (case dr_fa28 => k_is)
      (case dr_fl28 => k_is)
      (case dr_fc28 => k_is)
      (case dr_fk28 => k_is)
      (case dr_fa29 => k_is)
      (case dr_fl29 => k_is)
      (case dr_fc29 => k_is)
      (case dr_fk29 => k_is)
      (case dr_fa30 => k_is)
      (case dr_fl30 => k_is)
      (case dr_fc30 => k_is)
      (case dr_fk30 => k_is)
    obtain ⟨f, fd, F, m⟩ := T.f_read
    have e0 := hmg.symm.trans m
    cases e0
    exact ⟨fd, Dr.binds_any F Dr.bd_read, fun base kb nb => Dr.ok_read F T⟩
  case S =>
    intro K H xs a hO hwi hask hx
    cases hx with
    | cons h1 hx =>
      cases hx
      cases h1 with
      | lst hs ha =>
        have e := L2.ints_dw a.1 _ ha
        subst e
        have q : ((Codec.inLen 0 32 a.1 && a.1.all (Codec.inInt 0 255)) && true) = true := hwi
        rw [Bool.and_eq_true, Bool.and_eq_true] at q
        refine ⟨_, a.1, rfl, hs, fun x hx => ?_, fun H' p hp => .lst (L2.SqL.of hp) (L2.dw_ints _)⟩
        have := List.all_eq_true.mp q.1.2 x hx
        exact Codec.inInt_iff.mp this
#print axioms PySem.Challenge.cw_dayround_s09_read_holds
