import PyProof.Rows.All
import Wide.All
import OpenK.AllK
import Wide.FinOn
import KE.OsGo
import KE.OsArgs
import PySem.Challenge.RW_dayround_s06_between
set_option Elab.async false
namespace Cal
open Sw11

theorem fd4 (a : Int) : a.fdiv 4 = a / 4 := Int.fdiv_eq_ediv_of_nonneg a (by decide)
theorem fd100 (a : Int) : a.fdiv 100 = a / 100 := Int.fdiv_eq_ediv_of_nonneg a (by decide)
theorem fd400 (a : Int) : a.fdiv 400 = a / 400 := Int.fdiv_eq_ediv_of_nonneg a (by decide)
theorem fdE (a : Int) : a.fdiv 146097 = a / 146097 := Int.fdiv_eq_ediv_of_nonneg a (by decide)

theorem ys (y : Int) : yearStart y = 365 * y + (y + 3) / 4 - (y + 99) / 100 + (y + 399) / 400 := by
  simp only [yearStart, fd4, fd100, fd400]
theorem ys1970 : yearStart 1970 = 719528 := by decide
theorem first_is : FIRST = -365961662 := by decide
theorem last_is : LAST = 364522971 := by decide

theorem long_iff (y : Int) : long y = true ↔ (y % 4 = 0 ∧ y % 100 ≠ 0) ∨ y % 400 = 0 := by
  simp [long, bne]

theorem ys_succ (y : Int) : yearStart (y + 1) = yearStart y + (if long y = true then 366 else 365) := by
  rw [ys, ys]
  by_cases h : long y = true
  · rw [if_pos h]
    rw [long_iff] at h
    omega
  · rw [if_neg h]
    rw [long_iff] at h
    omega

theorem ys_mono {a b : Int} (h : a ≤ b) : yearStart a ≤ yearStart b := by
  rw [ys, ys]; omega

theorem ys_unique {a b z : Int} (h1 : yearStart a ≤ z) (h2 : z < yearStart (a + 1)) (h3 : yearStart b ≤ z) (h4 : z < yearStart (b + 1)) : a = b := by
  rcases (by omega : a = b ∨ a + 1 ≤ b ∨ b + 1 ≤ a) with h | h | h
  · exact h
  · have := ys_mono h; omega
  · have := ys_mono h; omega

/-- Days ahead of a month, by the long year's extra day. -/
def ahead (l : Bool) (m : Nat) : Nat :=
  match m with
  | 2 => 31
  | 3 => if l = true then 60 else 59
  | 4 => if l = true then 91 else 90
  | 5 => if l = true then 121 else 120
  | 6 => if l = true then 152 else 151
  | 7 => if l = true then 182 else 181
  | 8 => if l = true then 213 else 212
  | 9 => if l = true then 244 else 243
  | 10 => if l = true then 274 else 273
  | 11 => if l = true then 305 else 304
  | 12 => if l = true then 335 else 334
  | 13 => if l = true then 366 else 365
  | _ => 0

theorem before_is (y : Int) (m : Nat) (h : m ≤ 13) : before y m = ahead (long y) m := by
  unfold before
  cases hl : long y <;>
  (rcases (by omega : m = 0 ∨ m = 1 ∨ m = 2 ∨ m = 3 ∨ m = 4 ∨ m = 5 ∨ m = 6 ∨ m = 7 ∨ m = 8 ∨ m = 9 ∨ m = 10 ∨ m = 11 ∨ m = 12 ∨ m = 13) with h | h | h | h | h | h | h | h | h | h | h | h | h | h <;>
   subst h <;> simp [List.range_succ, monthDays, hl, ahead])

theorem before_succ (y : Int) (m : Nat) (h1 : 1 ≤ m) : before y (m + 1) = before y m + monthDays y m := by
  unfold before
  obtain ⟨k, rfl⟩ : ∃ k, m = k + 1 := ⟨m - 1, by omega⟩
  simp [List.range_succ]

theorem before_13 (y : Int) : before y 13 = (if long y = true then 366 else 365) := by
  rw [before_is y 13 (by omega)]
  rfl

theorem before_mono (y : Int) {a b : Nat} (h1 : 1 ≤ a) (h : a ≤ b) : before y a ≤ before y b := by
  induction b with
  | zero => omega
  | succ b ih =>
    rcases (by omega : a = b + 1 ∨ a ≤ b) with e | e
    · rw [e]; exact Nat.le_refl _
    · rw [before_succ y b (by omega)]
      have := ih e
      omega

theorem monthDays_in (y : Int) (m : Nat) : 28 ≤ monthDays y m ∧ monthDays y m ≤ 31 := by
  unfold monthDays
  repeat' split
  all_goals omega

theorem count_upto (p : Nat → Bool) (k : Nat) : ∀ (N : Nat), k ≤ N → (∀ i, i < k → p i = true) → (∀ i, k ≤ i → i < N → p i = false) → ((List.range N).filter p).length = k
  | 0, hk, _, _ => by simp; omega
  | N + 1, hk, h1, h2 => by
    rw [List.range_succ, List.filter_append, List.length_append]
    rcases (by omega : k = N + 1 ∨ k ≤ N) with e | e
    · have i := count_upto p N N (Nat.le_refl _) (fun i hi => h1 i (by omega)) (fun i a b => by omega)
      rw [i]
      simp [h1 N (by omega), e]
    · have i := count_upto p k N e h1 (fun i a b => h2 i a (by omega))
      rw [i]
      simp [h2 N e (by omega)]

/-- The year of a day, as worked out. -/
theorem dayCivil_year (n : Int) : yearStart (dayCivil n).y ≤ n + 719528 ∧ n + 719528 < yearStart ((dayCivil n).y + 1) := by
  simp only [dayCivil, ys1970, fdE]
  generalize hz : n + 719528 = z
  generalize hy : z * 400 / 146097 = y0
  have b1 : 146097 * y0 ≤ z * 400 := by omega
  have b2 : z * 400 < 146097 * y0 + 146097 := by omega
  have a1 := ys (y0 - 1)
  have a2 := ys y0
  have a3 := ys (y0 + 1)
  have a4 := ys (y0 + 1 + 1)
  have e0 : y0 - 1 + 1 = y0 := by omega
  by_cases h1 : yearStart (y0 + 1) ≤ z
  · rw [if_pos h1]
    exact ⟨h1, by omega⟩
  · rw [if_neg h1]
    by_cases h2 : z < yearStart y0
    · rw [if_pos h2, e0]
      exact ⟨by omega, h2⟩
    · rw [if_neg h2]
      exact ⟨by omega, by omega⟩

/-- **Whatever year, month and day of the month make a day are that day's.** -/
theorem dayCivil_eq {n : Int} {y : Int} {m d : Nat} (hm1 : 1 ≤ m) (hm2 : m ≤ 12) (hd1 : 1 ≤ d) (hd2 : d ≤ monthDays y m)
    (h : yearStart y + (before y m : Int) + (d : Int) - 1 = n + 719528) : dayCivil n = ⟨y, m, d⟩ := by
  have hy := dayCivil_year n
  have b1 := before_succ y m hm1
  have b2 := before_mono y (a := m + 1) (b := 13) (by omega) (by omega)
  have b3 := before_13 y
  have s := ys_succ y
  have ey : (dayCivil n).y = y := by
    refine ys_unique hy.1 hy.2 (by omega) ?_
    rw [s, show ((if long y = true then 366 else 365 : Int)) = ((if long y = true then 366 else 365 : Nat) : Int) by split <;> rfl]
    rw [← b3]
    omega
  have em : (dayCivil n).m = m := by
    have e : (dayCivil n).m = ((List.range 12).filter fun (k : Nat) => decide (before (dayCivil n).y (k + 1) ≤ (n + yearStart 1970 - yearStart (dayCivil n).y).toNat)).length := rfl
    rw [e, ey, ys1970]
    have ed : (n + 719528 - yearStart y).toNat = before y m + (d - 1) := by omega
    rw [ed]
    refine count_upto _ m 12 hm2 ?_ ?_
    · intro i hi
      have := before_mono y (a := i + 1) (b := m) (by omega) (by omega)
      simp only [decide_eq_true_eq]
      omega
    · intro i hi _
      have := before_mono y (a := m + 1) (b := i + 1) (by omega) (by omega)
      simp only [decide_eq_false_iff_not]
      omega
  have ed : (dayCivil n).d = d := by
    have e : (dayCivil n).d = (n + yearStart 1970 - yearStart (dayCivil n).y).toNat - before (dayCivil n).y (dayCivil n).m + 1 := rfl
    rw [e, ey, em, ys1970]
    omega
  cases hc : dayCivil n with
  | mk a b c =>
    rw [hc] at ey em ed
    simp only at ey em ed
    rw [ey, em, ed]

/-- **The other way: a day's year, month and day of the month make it.** -/
theorem dayCivil_right (n : Int) : 1 ≤ (dayCivil n).m ∧ (dayCivil n).m ≤ 12 ∧ 1 ≤ (dayCivil n).d ∧ (dayCivil n).d ≤ monthDays (dayCivil n).y (dayCivil n).m ∧
    yearStart (dayCivil n).y + (before (dayCivil n).y (dayCivil n).m : Int) + ((dayCivil n).d : Int) - 1 = n + 719528 := by
  have hy := dayCivil_year n
  generalize hc : (dayCivil n).y = y at *
  have s := ys_succ y
  have b3 := before_13 y
  have hb : before y 1 = 0 := by rfl
  have k : ∃ m d : Nat, 1 ≤ m ∧ m ≤ 12 ∧ 1 ≤ d ∧ d ≤ monthDays y m ∧ yearStart y + (before y m : Int) + (d : Int) - 1 = n + 719528 := by
    have hlt : (n + 719528 - yearStart y).toNat < before y 13 := by
      rw [b3]
      split at s
      · rw [if_pos (by assumption)]; omega
      · rw [if_neg (by assumption)]; omega
    have : ∀ M : Nat, 1 ≤ M → (n + 719528 - yearStart y).toNat < before y (M + 1) → ∃ m : Nat, 1 ≤ m ∧ m ≤ M ∧ before y m ≤ (n + 719528 - yearStart y).toNat ∧ (n + 719528 - yearStart y).toNat < before y (m + 1) := by
      intro M
      induction M with
      | zero => intro h; omega
      | succ M ih =>
        intro h1 h2
        by_cases h3 : before y (M + 1) ≤ (n + 719528 - yearStart y).toNat
        · exact ⟨M + 1, by omega, by omega, h3, h2⟩
        · rcases (by omega : M = 0 ∨ 1 ≤ M) with e | e
          · subst e
            have hb' : before y (0 + 1) = 0 := hb
            omega
          · obtain ⟨m, a, b, c, d⟩ := ih e (by omega)
            exact ⟨m, a, by omega, c, d⟩
    obtain ⟨m, h1, h2, h3, h4⟩ := this 12 (by omega) hlt
    rw [before_succ y m h1] at h4
    exact ⟨m, (n + 719528 - yearStart y).toNat - before y m + 1, h1, h2, by omega, by omega, by omega⟩
  obtain ⟨m, d, h1, h2, h3, h4, h5⟩ := k
  have e := dayCivil_eq h1 h2 h3 h4 h5
  have em : (dayCivil n).m = m := by rw [e]
  have ed : (dayCivil n).d = d := by rw [e]
  rw [em, ed]
  exact ⟨h1, h2, h3, h4, h5⟩
end Cal
namespace Cal
open Sw11

def foy (y : Int) : Int := yearStart y - 719528
def fom (y m : Int) : Int := yearStart y - 719528 + (before y m.toNat : Int)
def yof (n : Int) : Int := (dayCivil n).y
def mof (n : Int) : Int := ((dayCivil n).m : Int)
def mlen (y m : Int) : Int := (monthDays y m.toNat : Int)

theorem foy_is (y : Int) : -719162 + (y - 1) * 365 + (Int.fdiv (y - 1) 4 - Int.fdiv (y - 1) 100 + Int.fdiv (y - 1) 400) = foy y := by
  rw [foy, ys, fd4, fd100, fd400]
  omega

theorem ys_at {q c f g : Int} (hc0 : 0 ≤ c) (hc : c ≤ 3) (hf0 : 0 ≤ f) (hf : f ≤ 24) (hg0 : 0 ≤ g) (hg : g ≤ 3) :
    yearStart (1 + q * 400 + c * 100 + f * 4 + g) = 366 + 146097 * q + 36524 * c + 1461 * f + 365 * g := by
  rw [ys]
  have e1 : (1 + q * 400 + c * 100 + f * 4 + g + 3) / 4 = q * 100 + c * 25 + f + 1 := by omega
  have e2 : (1 + q * 400 + c * 100 + f * 4 + g + 99) / 100 = q * 4 + c + 1 := by omega
  have e3 : (1 + q * 400 + c * 100 + f * 4 + g + 399) / 400 = q + 1 := by omega
  rw [e1, e2, e3]
  omega

theorem yof_is {n q r c f g : Int} (e : n + 719162 = 146097 * q + r) (r0 : 0 ≤ r) (r1 : r < 146097)
    (hc : (c = r / 36524 ∧ r / 36524 ≤ 3) ∨ (c = 3 ∧ 3 ≤ r / 36524))
    (hf : f = (r - c * 36524) / 1461)
    (hg : (g = (r - c * 36524) % 1461 / 365 ∧ (r - c * 36524) % 1461 / 365 ≤ 3) ∨ (g = 3 ∧ 3 ≤ (r - c * 36524) % 1461 / 365)) :
    1 + q * 400 + c * 100 + f * 4 + g = yof n := by
  have c0 : 0 ≤ c ∧ c ≤ 3 ∧ 36524 * c ≤ r ∧ r ≤ 36524 * c + 36524 ∧ (r = 36524 * c + 36524 → c = 3) := by
    rcases hc with h | h <;> omega
  obtain ⟨c0, c1, c2, c3, c4⟩ := c0
  generalize hk : r - c * 36524 = k at *
  have f0 : 0 ≤ f ∧ f ≤ 24 := by omega
  have g0 : 0 ≤ g ∧ g ≤ 3 ∧ 365 * g ≤ k % 1461 ∧ k % 1461 ≤ 365 * g + 365 ∧ (k % 1461 = 365 * g + 365 → g = 3) := by
    rcases hg with h | h <;> omega
  obtain ⟨g0, g1, g2, g3, g4⟩ := g0
  have hy := dayCivil_year n
  have a := ys_at (q := q) c0 c1 f0.1 f0.2 g0 g1
  refine ys_unique (z := n + 719528) ?_ ?_ hy.1 hy.2
  · rw [a]; omega
  · rw [ys_succ, a]
    generalize hY : 1 + q * 400 + c * 100 + f * 4 + g = Y
    by_cases hl : long Y = true
    · rw [if_pos hl]; omega
    · rw [if_neg hl]
      rw [long_iff] at hl
      omega
end Cal
namespace Cal
open Sw11

/-- An answer as a list. -/
def flat (a : Ans) : List Int := a.code :: (a.nums ++ a.out.map fun (c : UInt8) => (c.toNat : Int))
theorem flat_if {p : Prop} [Decidable p] (a b : Ans) : flat (if p then a else b) = if p then flat a else flat b := by
  split <;> rfl
theorem day_f (y m d : Int) : PySw11.day y m d = if (civilOf y m d).right = true then [0, (civilOf y m d).day] else [-1] := by
  show flat (if (civilOf y m d).right = true then tells [(civilOf y m d).day] else says (-1)) = _
  rw [flat_if]
  rfl
theorem civil_f (n : Int) : PySw11.civil n = if isDay n = true then [0, (dayCivil n).y, ((dayCivil n).m : Int), ((dayCivil n).d : Int)] else [-1] := by
  show flat (if isDay n = true then tells [(dayCivil n).y, ((dayCivil n).m : Int), ((dayCivil n).d : Int)] else says (-1)) = _
  rw [flat_if]
  rfl

theorem isDay_iff (n : Int) : isDay n = true ↔ -365961662 ≤ n ∧ n ≤ 364522971 := by
  simp [isDay, first_is, last_is]

theorem right_iff (y m d : Int) : (civilOf y m d).right = true ↔ -999999 ≤ y ∧ y ≤ 999999 ∧ 1 ≤ m ∧ m ≤ 12 ∧ 1 ≤ d ∧ d ≤ mlen y m := by
  unfold Civil.right civilOf isYear mlen
  simp only [Bool.and_eq_true, decide_eq_true_eq]
  have eY : YEARS = 999999 := rfl
  rw [eY]
  by_cases hm : m < 0
  · rw [if_pos hm]
    omega
  · rw [if_neg hm]
    by_cases hd : d < 0
    · rw [if_pos hd]; omega
    · rw [if_neg hd]; omega

theorem day_no {y m d : Int} (h : ¬ (-999999 ≤ y ∧ y ≤ 999999 ∧ 1 ≤ m ∧ m ≤ 12 ∧ 1 ≤ d ∧ d ≤ mlen y m)) : PySw11.day y m d = [-1] := by
  rw [day_f, if_neg (fun h' => h ((right_iff y m d).mp h'))]
theorem day_yes {y m d : Int} (h : -999999 ≤ y ∧ y ≤ 999999 ∧ 1 ≤ m ∧ m ≤ 12 ∧ 1 ≤ d ∧ d ≤ mlen y m) : PySw11.day y m d = [0, fom y m + d - 1] := by
  rw [day_f, if_pos ((right_iff y m d).mpr h)]
  unfold civilOf Civil.day fom
  rw [if_neg (by omega), if_neg (by omega), ys1970]
  simp only
  congr 2
  omega

theorem civil_no {n : Int} (h : ¬ (-365961662 ≤ n ∧ n ≤ 364522971)) : PySw11.civil n = [-1] := by
  rw [civil_f, if_neg (fun h' => h ((isDay_iff n).mp h'))]
theorem civil_yes {n : Int} (h : -365961662 ≤ n ∧ n ≤ 364522971) : PySw11.civil n = [0, yof n, mof n, n - fom (yof n) (mof n) + 1] := by
  rw [civil_f, if_pos ((isDay_iff n).mpr h)]
  have r := dayCivil_right n
  unfold yof mof fom
  have e : ((dayCivil n).d : Int) = n - (yearStart (dayCivil n).y - 719528 + (before (dayCivil n).y ((dayCivil n).m : Int).toNat : Int)) + 1 := by
    rw [Int.toNat_natCast]
    omega
  rw [e]

/-- The table of the days ahead of each month, as the program has it. -/
theorem fom_short {y m : Int} (h : 1 ≤ m) (h' : m ≤ 2) : foy y + ([0, 31, 59, 90, 120, 151, 181, 212, 243, 273, 304, 334] : List Int).getD (m - 1).toNat 0 = fom y m := by
  unfold foy fom
  rw [before_is y m.toNat (by omega)]
  rcases (by omega : m = 1 ∨ m = 2) with e | e <;> subst e <;> rfl
theorem fom_plain {y m : Int} (h : 1 ≤ m) (h' : m ≤ 12) (hl : long y = false) : foy y + ([0, 31, 59, 90, 120, 151, 181, 212, 243, 273, 304, 334] : List Int).getD (m - 1).toNat 0 = fom y m := by
  unfold foy fom
  rw [before_is y m.toNat (by omega), hl]
  rcases (by omega : m = 1 ∨ m = 2 ∨ m = 3 ∨ m = 4 ∨ m = 5 ∨ m = 6 ∨ m = 7 ∨ m = 8 ∨ m = 9 ∨ m = 10 ∨ m = 11 ∨ m = 12) with e | e | e | e | e | e | e | e | e | e | e | e <;> subst e <;> rfl
theorem fom_long {y m : Int} (h : 3 ≤ m) (h' : m ≤ 12) (hl : long y = true) : foy y + ([0, 31, 59, 90, 120, 151, 181, 212, 243, 273, 304, 334] : List Int).getD (m - 1).toNat 0 + 1 = fom y m := by
  unfold foy fom
  rw [before_is y m.toNat (by omega), hl]
  rcases (by omega : m = 3 ∨ m = 4 ∨ m = 5 ∨ m = 6 ∨ m = 7 ∨ m = 8 ∨ m = 9 ∨ m = 10 ∨ m = 11 ∨ m = 12) with e | e | e | e | e | e | e | e | e | e <;> subst e <;> (simp [ahead]; omega)

/-- The months' lengths, as the program has them. -/
theorem mlen_table {y m : Int} (h : 1 ≤ m) (h' : m ≤ 12) (hl : m ≠ 2 ∨ long y = false) : ([31, 28, 31, 30, 31, 30, 31, 31, 30, 31, 30, 31] : List Int).getD (m - 1).toNat 0 = mlen y m := by
  unfold mlen monthDays
  rcases (by omega : m = 1 ∨ m = 2 ∨ m = 3 ∨ m = 4 ∨ m = 5 ∨ m = 6 ∨ m = 7 ∨ m = 8 ∨ m = 9 ∨ m = 10 ∨ m = 11 ∨ m = 12) with e | e | e | e | e | e | e | e | e | e | e | e <;> subst e <;> first | rfl | (rcases hl with hl | hl; exact absurd rfl hl; rw [hl]; rfl)
theorem mlen_feb {y : Int} (hl : long y = true) : mlen y 2 = 29 := by
  unfold mlen monthDays
  rw [hl]
  rfl
theorem mlen_in (y m : Int) : 28 ≤ mlen y m ∧ mlen y m ≤ 31 := by
  have := monthDays_in y m.toNat
  unfold mlen
  omega
theorem fom_succ (y : Int) {m : Int} (h : 1 ≤ m) : fom y (m + 1) = fom y m + mlen y m := by
  unfold fom mlen
  rw [show (m + 1).toNat = m.toNat + 1 by omega, before_succ y m.toNat (by omega)]
  omega
theorem fom_13 (y : Int) : fom y 13 = foy (y + 1) := by
  unfold fom foy
  rw [show (13 : Int).toNat = 13 from rfl, before_13, ys_succ]
  split <;> omega
theorem fom_1 (y : Int) : fom y 1 = foy y := by
  unfold fom foy
  rw [show (1 : Int).toNat = 1 from rfl, show before y 1 = 0 from rfl]
  omega
theorem yof_in (n : Int) : foy (yof n) ≤ n ∧ n < foy (yof n + 1) := by
  have := dayCivil_year n
  unfold foy yof
  omega
/-- The month: the last one whose first isn't after the day. -/
theorem mof_is {n m : Int} (h1 : 1 ≤ m) (h2 : m ≤ 12) (h3 : fom (yof n) m ≤ n) (h4 : n < fom (yof n) (m + 1)) : m = mof n := by
  rw [fom_succ _ h1] at h4
  have e := dayCivil_eq (n := n) (y := yof n) (m := m.toNat) (d := (n - fom (yof n) m + 1).toNat) (by omega) (by omega) (by omega) (by unfold mlen at h4; omega) (by unfold fom at *; omega)
  unfold mof
  rw [e]
  simp only
  omega
theorem mof_in (n : Int) : 1 ≤ mof n ∧ mof n ≤ 12 ∧ fom (yof n) (mof n) ≤ n ∧ n < fom (yof n) (mof n) + mlen (yof n) (mof n) := by
  have r := dayCivil_right n
  unfold mof fom yof mlen
  simp only [Int.toNat_natCast]
  omega
end Cal
namespace Cal
open Sw11
theorem fm4 (a : Int) : Int.fmod a 4 = a % 4 := Int.fmod_eq_emod_of_nonneg a (by decide)
theorem fm100 (a : Int) : Int.fmod a 100 = a % 100 := Int.fmod_eq_emod_of_nonneg a (by decide)
theorem fm400 (a : Int) : Int.fmod a 400 = a % 400 := Int.fmod_eq_emod_of_nonneg a (by decide)
/-- The program's own way to say that a year is long. -/
theorem long_t {y : Int} (h : (Int.fmod y 4 = 0 ∧ Int.fmod y 100 ≠ 0) ∨ (Int.fmod y 4 = 0 ∧ Int.fmod y 400 = 0)) : true = long y := by
  rw [fm4, fm100, fm400] at h
  symm
  rw [long_iff]
  omega
theorem mstart (n : Int) : 1 ≤ (12 : Int) ∧ (12 : Int) ≤ 12 ∧ n < fom (yof n) (12 + 1) := by
  refine ⟨by omega, by omega, ?_⟩
  have := yof_in n
  rw [show (12 : Int) + 1 = 13 from rfl, fom_13]
  omega
theorem mturn {n m : Int} (h1 : 1 ≤ m) (h2 : m ≤ 12) (h : n < fom (yof n) m) : 1 ≤ m - 1 ∧ m - 1 ≤ 12 ∧ n < fom (yof n) (m - 1 + 1) := by
  have := yof_in n
  refine ⟨?_, by omega, by rw [show m - 1 + 1 = m by omega]; exact h⟩
  rcases (by omega : m = 1 ∨ 1 ≤ m - 1) with e | e
  · subst e
    rw [fom_1] at h
    omega
  · exact e
theorem mend {n m : Int} (hn : -365961662 ≤ n ∧ n ≤ 364522971) (h1 : 1 ≤ m) (h2 : m ≤ 12) (h : n < fom (yof n) (m + 1)) (h' : ¬ n < fom (yof n) m) :
    [0, yof n, m, n - fom (yof n) m + 1] = PySw11.civil n := by
  rw [civil_yes hn, mof_is h1 h2 (by omega) h]
theorem fom_tree {y m v : Int} (h1 : 1 ≤ m) (h2 : m ≤ 12) (h : (2 < m ∧ long y = true ∧ v = foy y + ([0, 31, 59, 90, 120, 151, 181, 212, 243, 273, 304, 334] : List Int).getD (m - 1).toNat 0 + 1) ∨ ((¬ 2 < m ∨ long y = false) ∧ v = foy y + ([0, 31, 59, 90, 120, 151, 181, 212, 243, 273, 304, 334] : List Int).getD (m - 1).toNat 0)) : v = fom y m := by
  rcases h with ⟨a, b, c⟩ | ⟨a, c⟩
  · rw [c]; exact fom_long (by omega) h2 b
  · rw [c]
    rcases a with a | a
    · exact fom_short h1 (by omega)
    · exact fom_plain h1 h2 a
end Cal
namespace Cal
open Sw11
/-- The year of a day, as the program works it out. -/
theorem yof_tree (n : Int) : (1 + (n - -719162).fdiv 146097 * 400 + (if 3 < ((n - -719162).fmod 146097).fdiv 36524 then 3 else ((n - -719162).fmod 146097).fdiv 36524) * 100 +
      ((n - -719162).fmod 146097 - (if 3 < ((n - -719162).fmod 146097).fdiv 36524 then 3 else ((n - -719162).fmod 146097).fdiv 36524) * 36524).fdiv 1461 * 4 +
    if 3 < (((n - -719162).fmod 146097 - (if 3 < ((n - -719162).fmod 146097).fdiv 36524 then 3 else ((n - -719162).fmod 146097).fdiv 36524) * 36524).fmod 1461).fdiv 365 then 3
    else (((n - -719162).fmod 146097 - (if 3 < ((n - -719162).fmod 146097).fdiv 36524 then 3 else ((n - -719162).fmod 146097).fdiv 36524) * 36524).fmod 1461).fdiv 365) = yof n := by
  have f1 : ∀ a : Int, a.fdiv 146097 = a / 146097 := fdE
  have f2 : ∀ a : Int, a.fmod 146097 = a % 146097 := fun a => Int.fmod_eq_emod_of_nonneg a (by decide)
  have f3 : ∀ a : Int, a.fdiv 36524 = a / 36524 := fun a => Int.fdiv_eq_ediv_of_nonneg a (by decide)
  have f4 : ∀ a : Int, a.fdiv 1461 = a / 1461 := fun a => Int.fdiv_eq_ediv_of_nonneg a (by decide)
  have f5 : ∀ a : Int, a.fmod 1461 = a % 1461 := fun a => Int.fmod_eq_emod_of_nonneg a (by decide)
  have f6 : ∀ a : Int, a.fdiv 365 = a / 365 := fun a => Int.fdiv_eq_ediv_of_nonneg a (by decide)
  simp only [f1, f2, f3, f4, f5, f6]
  refine yof_is (r := (n - -719162) % 146097) (by omega) (by omega) (by omega) ?_ rfl ?_
  · split
    · exact Or.inr ⟨rfl, by omega⟩
    · exact Or.inl ⟨rfl, by omega⟩
  · generalize ((n - -719162) % 146097 - (if 3 < (n - -719162) % 146097 / 36524 then 3 else (n - -719162) % 146097 / 36524) * 36524) % 1461 / 365 = g
    split
    · exact Or.inr ⟨rfl, by omega⟩
    · exact Or.inl ⟨rfl, by omega⟩
abbrev tabl (m : Int) : Int := ([0, 31, 59, 90, 120, 151, 181, 212, 243, 273, 304, 334] : List Int).getD (m - 1).toNat 0
theorem turnL {n m : Int} (h1 : 1 ≤ m) (h2 : m ≤ 12) (h3 : 2 < m) (hl : long (yof n) = true) (h : n < foy (yof n) + ([0, 31, 59, 90, 120, 151, 181, 212, 243, 273, 304, 334] : List Int).getD (m - 1).toNat 0 + 1) :
    1 ≤ m - 1 ∧ m - 1 ≤ 12 ∧ n < fom (yof n) (m - 1 + 1) := by
  rw [fom_long (by omega) h2 hl] at h
  exact mturn h1 h2 h
theorem turnP {n m : Int} (h1 : 1 ≤ m) (h2 : m ≤ 12) (hl : long (yof n) = false) (h : n < foy (yof n) + ([0, 31, 59, 90, 120, 151, 181, 212, 243, 273, 304, 334] : List Int).getD (m - 1).toNat 0) :
    1 ≤ m - 1 ∧ m - 1 ≤ 12 ∧ n < fom (yof n) (m - 1 + 1) := by
  rw [fom_plain h1 h2 hl] at h
  exact mturn h1 h2 h
theorem turnS {n m : Int} (h1 : 1 ≤ m) (h2 : m ≤ 12) (h3 : ¬ 2 < m) (h : n < foy (yof n) + ([0, 31, 59, 90, 120, 151, 181, 212, 243, 273, 304, 334] : List Int).getD (m - 1).toNat 0) :
    1 ≤ m - 1 ∧ m - 1 ≤ 12 ∧ n < fom (yof n) (m - 1 + 1) := by
  rw [fom_short h1 (by omega)] at h
  exact mturn h1 h2 h
theorem endAny {n m v : Int} (hn : -365961662 ≤ n) (hn' : n ≤ 364522971) (h1 : 1 ≤ m) (h2 : m ≤ 12) (h : n < fom (yof n) (m + 1)) (hv : v = fom (yof n) m) (h' : ¬ n < v) :
    [0, yof n, m, n - v + 1] = PySw11.civil n := by
  subst hv
  exact mend ⟨hn, hn'⟩ h1 h2 h h'
end Cal
namespace Cal
open Sw11

theorem wday_is (n : Int) : (wday n : Int) = (n + 3) % 7 + 1 := by
  unfold wday; omega
theorem weekStart_is (n : Int) : weekStart n = n - (n + 3) % 7 := by
  unfold weekStart; rw [wday_is]; omega
theorem week1_is (y : Int) : week1 y = foy y + 3 - (foy y + 6) % 7 := by
  unfold week1; rw [weekStart_is, ys1970]; unfold foy; omega
theorem week1_facts (y : Int) : (week1 y + 3) % 7 = 0 ∧ foy y - 3 ≤ week1 y ∧ week1 y ≤ foy y + 3 := by
  rw [week1_is]; omega
theorem week1_of {y s : Int} (h : (s + 3) % 7 = 0) (h1 : foy y - 3 ≤ s) (h2 : s ≤ foy y + 3) : s = week1 y := by
  have := week1_facts y
  omega
theorem foy_mono {a b : Int} (h : a ≤ b) : foy a + 365 * (b - a) ≤ foy b := by
  unfold foy; rw [ys, ys]; omega
theorem foy_succ (y : Int) : foy (y + 1) = foy y + (if long y = true then 366 else 365) := by
  unfold foy; rw [ys_succ]; omega
theorem week1_mono {a b : Int} (h : a ≤ b) : week1 a ≤ week1 b := by
  rcases (by omega : a = b ∨ a + 1 ≤ b) with e | e
  · rw [e]; exact Int.le_refl _
  · have := foy_mono h
    have := week1_facts a
    have := week1_facts b
    omega
theorem week1_unique {a b n : Int} (h1 : week1 a ≤ n) (h2 : n < week1 (a + 1)) (h3 : week1 b ≤ n) (h4 : n < week1 (b + 1)) : a = b := by
  rcases (by omega : a = b ∨ a + 1 ≤ b ∨ b + 1 ≤ a) with h | h | h
  · exact h
  · have := week1_mono h; omega
  · have := week1_mono h; omega
theorem dayWeek_year (n : Int) : week1 (dayWeek n).1 ≤ n ∧ n < week1 ((dayWeek n).1 + 1) := by
  have hy := yof_in n
  have e : (dayWeek n).1 = if n < week1 (yof n) then yof n - 1 else if week1 (yof n + 1) ≤ n then yof n + 1 else yof n := rfl
  rw [e]
  have a1 := week1_facts (yof n - 1)
  have a2 := week1_facts (yof n)
  have a3 := week1_facts (yof n + 1)
  have a4 := week1_facts (yof n + 1 + 1)
  have m1 := foy_mono (show yof n - 1 ≤ yof n by omega)
  have m2 := foy_mono (show yof n + 1 ≤ yof n + 1 + 1 by omega)
  have e0 : yof n - 1 + 1 = yof n := by omega
  by_cases h1 : n < week1 (yof n)
  · rw [if_pos h1, e0]
    exact ⟨by omega, h1⟩
  · rw [if_neg h1]
    by_cases h2 : week1 (yof n + 1) ≤ n
    · rw [if_pos h2]
      exact ⟨h2, by omega⟩
    · rw [if_neg h2]
      exact ⟨by omega, by omega⟩
/-- **Whatever year has the day in its weeks is its week's year.** -/
theorem dayWeek_eq {n y : Int} (h1 : week1 y ≤ n) (h2 : n < week1 (y + 1)) : dayWeek n = (y, ((n - week1 y) / 7 + 1).toNat, wday n) := by
  have hy := dayWeek_year n
  have e : (dayWeek n).1 = y := week1_unique hy.1 hy.2 h1 h2
  have e2 : dayWeek n = ((dayWeek n).1, ((weekStart n - week1 (dayWeek n).1) / 7 + 1).toNat, wday n) := rfl
  rw [e2, e]
  have f := week1_facts y
  have w := weekStart_is n
  have : (weekStart n - week1 y) / 7 = (n - week1 y) / 7 := by omega
  rw [this]
theorem week_f (n : Int) : PySw11.week n = if isDay n = true then [0, (dayWeek n).1, ((dayWeek n).2.1 : Int), ((dayWeek n).2.2 : Int)] else [-1] := by
  show flat (if isDay n = true then tells [(dayWeek n).1, ((dayWeek n).2.1 : Int), ((dayWeek n).2.2 : Int)] else says (-1)) = _
  rw [flat_if]
  rfl
theorem week_no {n : Int} (h : ¬ (-365961662 ≤ n ∧ n ≤ 364522971)) : PySw11.week n = [-1] := by
  rw [week_f, if_neg (fun h' => h ((isDay_iff n).mp h'))]
theorem week_yes {n y : Int} (h : -365961662 ≤ n ∧ n ≤ 364522971) (h1 : week1 y ≤ n) (h2 : n < week1 (y + 1)) :
    PySw11.week n = [0, y, (n - week1 y) / 7 + 1, (n + 3) % 7 + 1] := by
  rw [week_f, if_pos ((isDay_iff n).mpr h), dayWeek_eq h1 h2]
  simp only
  rw [wday_is]
  have : (((n - week1 y) / 7 + 1).toNat : Int) = (n - week1 y) / 7 + 1 := by omega
  rw [this]
/-- The year of a day's week. -/
def wyof (n : Int) : Int := (dayWeek n).1
theorem wyof_in (n : Int) : week1 (wyof n) ≤ n ∧ n < week1 (wyof n + 1) := dayWeek_year n
theorem wyof_eq {n y : Int} (h1 : week1 y ≤ n) (h2 : n < week1 (y + 1)) : wyof n = y := week1_unique (wyof_in n).1 (wyof_in n).2 h1 h2

theorem from_week_f (y w wd : Int) : PySw11.from_week y w wd = if (isYear y && (within w 1 (weeksOf y) && (within wd 1 7 && isDay (week1 y + 7 * (w - 1) + (wd - 1))))) = true then [0, week1 y + 7 * (w - 1) + (wd - 1)] else [-1] := by
  show flat (if (isYear y && (within w 1 (weeksOf y) && (within wd 1 7 && isDay (week1 y + 7 * (w - 1) + (wd - 1))))) = true then tells [week1 y + 7 * (w - 1) + (wd - 1)] else says (-1)) = _
  rw [flat_if]
  rfl
theorem from_week_iff (y w wd : Int) : (isYear y && (within w 1 (weeksOf y) && (within wd 1 7 && isDay (week1 y + 7 * (w - 1) + (wd - 1))))) = true ↔
    (-999999 ≤ y ∧ y ≤ 999999) ∧ (1 ≤ w ∧ week1 y + 7 * w ≤ week1 (y + 1)) ∧ (1 ≤ wd ∧ wd ≤ 7) ∧ -365961662 ≤ week1 y + 7 * (w - 1) + (wd - 1) ∧ week1 y + 7 * (w - 1) + (wd - 1) ≤ 364522971 := by
  unfold isYear within weeksOf
  simp only [Bool.and_eq_true, decide_eq_true_eq, isDay_iff, show YEARS = 999999 from rfl]
  have f1 := week1_facts y
  have f2 := week1_facts (y + 1)
  omega
theorem from_week_no {y w wd : Int} (h : ¬ ((-999999 ≤ y ∧ y ≤ 999999) ∧ (1 ≤ w ∧ week1 y + 7 * w ≤ week1 (y + 1)) ∧ (1 ≤ wd ∧ wd ≤ 7) ∧ -365961662 ≤ week1 y + 7 * (w - 1) + (wd - 1) ∧ week1 y + 7 * (w - 1) + (wd - 1) ≤ 364522971)) :
    PySw11.from_week y w wd = [-1] := by
  rw [from_week_f, if_neg (fun h' => h ((from_week_iff y w wd).mp h'))]
theorem from_week_yes {y w wd : Int} (h : (-999999 ≤ y ∧ y ≤ 999999) ∧ (1 ≤ w ∧ week1 y + 7 * w ≤ week1 (y + 1)) ∧ (1 ≤ wd ∧ wd ≤ 7) ∧ -365961662 ≤ week1 y + 7 * (w - 1) + (wd - 1) ∧ week1 y + 7 * (w - 1) + (wd - 1) ≤ 364522971) :
    PySw11.from_week y w wd = [0, week1 y + 7 * (w - 1) + (wd - 1)] := by
  rw [from_week_f, if_pos ((from_week_iff y w wd).mpr h)]
end Cal
namespace Cal
open Sw11
theorem fm7 (a : Int) : Int.fmod a 7 = a % 7 := Int.fmod_eq_emod_of_nonneg a (by decide)
theorem fd7 (a : Int) : Int.fdiv a 7 = a / 7 := Int.fdiv_eq_ediv_of_nonneg a (by decide)
/-- The day of the week, the first of a week. -/
def wd (n : Int) : Int := Int.fmod (n + 3) 7 + 1
def fow (n : Int) : Int := n - wd n + 1
theorem wd_is (n : Int) : wd n = (n + 3) % 7 + 1 := by rw [wd, fm7]
theorem fow_week1 (y : Int) : fow (foy y + 3) = week1 y := by
  rw [week1_is, fow, wd_is]; omega
/-- The week's year, as the program has it: the year of the week's fourth day. -/
theorem wy_in (n : Int) : week1 (yof (fow n + 3)) ≤ n ∧ n < week1 (yof (fow n + 3) + 1) := by
  have h := yof_in (fow n + 3)
  have e : fow n = n - (n + 3) % 7 := by rw [fow, wd_is]; omega
  have a := week1_facts (yof (fow n + 3))
  have b := week1_facts (yof (fow n + 3) + 1)
  generalize yof (fow n + 3) = y at *
  omega
end Cal
namespace Cal
open Sw11

/-- Months counted one after another: the first day of one, its length. -/
def fz (z : Int) : Int := fom (z / 12) (z % 12 + 1)
def lz (z : Int) : Int := mlen (z / 12) (z % 12 + 1)
/-- A day's month, its day of the month. -/
def mz (n : Int) : Int := yof n * 12 + (mof n - 1)
def dom (n : Int) : Int := n - fom (yof n) (mof n) + 1

theorem fz_succ (z : Int) : fz (z + 1) = fz z + lz z := by
  unfold fz lz
  rcases (by omega : z % 12 = 11 ∨ z % 12 < 11) with h | h
  · rw [show (z + 1) / 12 = z / 12 + 1 by omega, show (z + 1) % 12 + 1 = 1 by omega, show z % 12 + 1 = 12 by omega, fom_1, ← fom_13, show (13 : Int) = 12 + 1 by rfl, fom_succ _ (by omega)]
  · rw [show (z + 1) / 12 = z / 12 by omega, show (z + 1) % 12 + 1 = z % 12 + 1 + 1 by omega, fom_succ _ (by omega)]
theorem lz_in (z : Int) : 28 ≤ lz z ∧ lz z ≤ 31 := mlen_in _ _
theorem fz_add (z : Int) : ∀ k : Nat, fz z + 28 * k ≤ fz (z + k)
  | 0 => by simp
  | k + 1 => by
    have := fz_add z k
    have e := fz_succ (z + k)
    have := lz_in (z + k)
    rw [show z + ((k + 1 : Nat) : Int) = z + k + 1 by omega]
    omega
theorem fz_mono {a b : Int} (h : a ≤ b) : fz a + 28 * (b - a) ≤ fz b := by
  have := fz_add a (b - a).toNat
  rw [show a + ((b - a).toNat : Int) = b by omega] at this
  omega
theorem fz_unique {a b n : Int} (h1 : fz a ≤ n) (h2 : n < fz (a + 1)) (h3 : fz b ≤ n) (h4 : n < fz (b + 1)) : a = b := by
  rcases (by omega : a = b ∨ a + 1 ≤ b ∨ b + 1 ≤ a) with h | h | h
  · exact h
  · have := fz_mono h; omega
  · have := fz_mono h; omega
theorem fz_at {y m : Int} (h1 : 1 ≤ m) (h2 : m ≤ 12) : fz (y * 12 + (m - 1)) = fom y m := by
  unfold fz
  rw [show (y * 12 + (m - 1)) / 12 = y by omega, show (y * 12 + (m - 1)) % 12 + 1 = m by omega]
theorem lz_at {y m : Int} (h1 : 1 ≤ m) (h2 : m ≤ 12) : lz (y * 12 + (m - 1)) = mlen y m := by
  unfold lz
  rw [show (y * 12 + (m - 1)) / 12 = y by omega, show (y * 12 + (m - 1)) % 12 + 1 = m by omega]
theorem mz_in (n : Int) : fz (mz n) ≤ n ∧ n < fz (mz n + 1) := by
  have h := mof_in n
  rw [fz_succ]
  unfold mz
  rw [fz_at h.1 h.2.1, lz_at h.1 h.2.1]
  omega
theorem mz_eq {z n : Int} (h1 : fz z ≤ n) (h2 : n < fz (z + 1)) : mz n = z := fz_unique (mz_in n).1 (mz_in n).2 h1 h2
theorem dom_is (n : Int) : dom n = n - fz (mz n) + 1 := by
  have h := mof_in n
  unfold mz dom
  rw [fz_at h.1 h.2.1]
theorem dom_in (n : Int) : 1 ≤ dom n ∧ dom n ≤ lz (mz n) := by
  have := mz_in n
  have := fz_succ (mz n)
  rw [dom_is]
  omega
theorem dom_c (n : Int) : dom n = ((dayCivil n).d : Int) := by
  have r := dayCivil_right n
  unfold dom yof mof fom
  rw [Int.toNat_natCast]
  omega
theorem yof_mz (n : Int) : yof n = mz n / 12 ∧ mof n = mz n % 12 + 1 := by
  have h := mof_in n
  unfold mz
  omega
/-- The first and the last month. -/
theorem fz_year (y : Int) : fz (y * 12) = foy y := by
  have := fz_at (y := y) (m := 1) (by omega) (by omega)
  rw [fom_1] at this
  rw [show y * 12 + (1 - 1) = y * 12 by omega] at this
  exact this

/-- Where a move by k months, rule 0, comes to. -/
def mv0 (n k : Int) : Int := fz (mz n + k) + (if dom n ≤ lz (mz n + k) then dom n else lz (mz n + k)) - 1
theorem mv0_in (n k : Int) : fz (mz n + k) ≤ mv0 n k ∧ mv0 n k < fz (mz n + k + 1) := by
  have := dom_in n
  have := lz_in (mz n + k)
  rw [fz_succ]
  unfold mv0
  split <;> omega
theorem mv0_zero (n : Int) : mv0 n 0 = n := by
  have h := dom_in n
  have e := dom_is n
  unfold mv0
  rw [Int.add_zero, if_pos h.2]
  omega
theorem mv0_mono {n a b : Int} (h : a < b) : mv0 n a < mv0 n b := by
  have h1 := mv0_in n a
  have h2 := mv0_in n b
  have := fz_mono (show mz n + a + 1 ≤ mz n + b by omega)
  omega

theorem monthOf_c (n k : Int) : monthOf (dayCivil n) k = ((mz n + k) / 12, ((mz n + k) % 12).toNat + 1) := by
  have e : (dayCivil n).y * 12 + (((dayCivil n).m : Int) - 1) + k = mz n + k := rfl
  unfold monthOf
  simp only [e]
  rw [Int.fdiv_eq_ediv_of_nonneg _ (show (0 : Int) ≤ 12 by decide)]
theorem civil_day (z d : Int) (h : 0 ≤ d) : (⟨z / 12, (z % 12).toNat + 1, d.toNat⟩ : Civil).day = fz z + d - 1 := by
  unfold Civil.day fz fom
  simp only
  rw [ys1970, show (z % 12 + 1).toNat = (z % 12).toNat + 1 by omega]
  omega
theorem lz_nat (z : Int) : (monthDays (z / 12) ((z % 12).toNat + 1) : Int) = lz z := by
  unfold lz mlen
  rw [show (z % 12 + 1).toNat = (z % 12).toNat + 1 by omega]
theorem isYear_iff (y : Int) : isYear y = true ↔ -999999 ≤ y ∧ y ≤ 999999 := by
  unfold isYear
  simp only [Bool.and_eq_true, decide_eq_true_eq, show YEARS = 999999 from rfl]

/-- **A move, worked out.** -/
theorem moved_is (n k : Int) (rule : Nat) : moved (dayCivil n) k rule =
    if dom n ≤ lz (mz n + k) then (if -999999 ≤ (mz n + k) / 12 ∧ (mz n + k) / 12 ≤ 999999 then some (fz (mz n + k) + dom n - 1) else none)
    else if rule = 0 then (if -999999 ≤ (mz n + k) / 12 ∧ (mz n + k) / 12 ≤ 999999 then some (fz (mz n + k) + lz (mz n + k) - 1) else none)
    else if rule = 1 then (if -999999 ≤ (mz n + k + 1) / 12 ∧ (mz n + k + 1) / 12 ≤ 999999 then some (fz (mz n + k + 1)) else none)
    else none := by
  unfold moved
  simp only [monthOf_c]
  have hl := lz_nat (mz n + k)
  have hd := dom_c n
  have e1 : (⟨(mz n + k) / 12, ((mz n + k) % 12).toNat + 1, (dayCivil n).d⟩ : Civil).day = fz (mz n + k) + dom n - 1 := by
    have := civil_day (mz n + k) (dom n) (by omega)
    rw [show (dom n).toNat = (dayCivil n).d by omega] at this
    exact this
  have e2 : (⟨(mz n + k) / 12, ((mz n + k) % 12).toNat + 1, monthDays ((mz n + k) / 12) (((mz n + k) % 12).toNat + 1)⟩ : Civil).day = fz (mz n + k) + lz (mz n + k) - 1 := by
    have := civil_day (mz n + k) (lz (mz n + k)) (by omega)
    rw [← hl, Int.toNat_natCast] at this
    rw [this, hl]
  have e3 : (⟨(mz n + k + 1) / 12, ((mz n + k + 1) % 12).toNat + 1, 1⟩ : Civil).day = fz (mz n + k + 1) := by
    have := civil_day (mz n + k + 1) 1 (by omega)
    rw [show (1 : Int).toNat = 1 from rfl] at this
    rw [this]
    omega
  rw [show mz n + (k + 1) = mz n + k + 1 by omega, e1, e2, e3]
  simp only [isYear_iff]
  by_cases h : dom n ≤ lz (mz n + k)
  · rw [if_pos h, if_pos (by omega)]
  · rw [if_neg h, if_neg (by omega)]

theorem move_f (n k rule : Int) : PySw11.move n k rule = if (within k (-24000000) 24000000 && within rule 0 2) = false then [-2] else if isDay n = false then [-1] else
    match moved (dayCivil n) k rule.toNat with
    | some x => [0, x]
    | none => [-1] := by
  show flat (if (within k (-24000000) 24000000 && within rule 0 2) = false then says (-2) else if isDay n = false then says (-1) else match moved (dayCivil n) k rule.toNat with
    | some x => tells [x]
    | none => says (-1)) = _
  rw [flat_if, flat_if]
  cases moved (dayCivil n) k rule.toNat <;> rfl
theorem within_iff (n a b : Int) : within n a b = true ↔ a ≤ n ∧ n ≤ b := by
  unfold within
  simp only [Bool.and_eq_true, decide_eq_true_eq]
theorem move_out {n k rule : Int} (h : ¬ (-24000000 ≤ k ∧ k ≤ 24000000 ∧ 0 ≤ rule ∧ rule ≤ 2)) : PySw11.move n k rule = [-2] := by
  rw [move_f, if_pos]
  rw [Bool.eq_false_iff]
  intro h'
  rw [Bool.and_eq_true, within_iff, within_iff] at h'
  omega
theorem move_in {k rule : Int} (h : -24000000 ≤ k ∧ k ≤ 24000000 ∧ 0 ≤ rule ∧ rule ≤ 2) : ¬ (within k (-24000000) 24000000 && within rule 0 2) = false := by
  rw [Bool.not_eq_false, Bool.and_eq_true, within_iff, within_iff]
  omega
theorem move_no {n k rule : Int} (h : -24000000 ≤ k ∧ k ≤ 24000000 ∧ 0 ≤ rule ∧ rule ≤ 2) (hn : ¬ (-365961662 ≤ n ∧ n ≤ 364522971)) : PySw11.move n k rule = [-1] := by
  rw [move_f, if_neg (move_in h), if_pos]
  rw [Bool.eq_false_iff]
  exact fun h' => hn ((isDay_iff n).mp h')
theorem move_yes {n k rule : Int} (h : -24000000 ≤ k ∧ k ≤ 24000000 ∧ 0 ≤ rule ∧ rule ≤ 2) (hn : -365961662 ≤ n ∧ n ≤ 364522971) :
    PySw11.move n k rule =
    if dom n ≤ lz (mz n + k) then (if -999999 ≤ (mz n + k) / 12 ∧ (mz n + k) / 12 ≤ 999999 then [0, fz (mz n + k) + dom n - 1] else [-1])
    else if rule = 0 then (if -999999 ≤ (mz n + k) / 12 ∧ (mz n + k) / 12 ≤ 999999 then [0, fz (mz n + k) + lz (mz n + k) - 1] else [-1])
    else if rule = 1 then (if -999999 ≤ (mz n + k + 1) / 12 ∧ (mz n + k + 1) / 12 ≤ 999999 then [0, fz (mz n + k + 1)] else [-1])
    else [-1] := by
  rw [move_f, if_neg (move_in h), if_neg (by rw [Bool.not_eq_false]; exact (isDay_iff n).mpr hn), moved_is]
  simp only [show (rule.toNat = 0 ↔ rule = 0) by omega, show (rule.toNat = 1 ↔ rule = 1) by omega]
  by_cases c1 : dom n ≤ lz (mz n + k)
  · simp only [if_pos c1]
    by_cases c2 : -999999 ≤ (mz n + k) / 12 ∧ (mz n + k) / 12 ≤ 999999
    · simp only [if_pos c2]
    · simp only [if_neg c2]
  · simp only [if_neg c1]
    by_cases c3 : rule = 0
    · simp only [if_pos c3]
      by_cases c2 : -999999 ≤ (mz n + k) / 12 ∧ (mz n + k) / 12 ≤ 999999
      · simp only [if_pos c2]
      · simp only [if_neg c2]
    · simp only [if_neg c3]
      by_cases c4 : rule = 1
      · simp only [if_pos c4]
        by_cases c2 : -999999 ≤ (mz n + k + 1) / 12 ∧ (mz n + k + 1) / 12 ≤ 999999
        · simp only [if_pos c2]
        · simp only [if_neg c2]
      · simp only [if_neg c4]

theorem foy_first : foy (-999999) = -365961662 := by decide
theorem foy_last : foy 1000000 = 364522972 := by decide
theorem year_in (n : Int) : (-365961662 ≤ n ∧ n ≤ 364522971) ↔ (-999999 ≤ mz n / 12 ∧ mz n / 12 ≤ 999999) := by
  have h := mz_in n
  have a := fz_year (-999999)
  have b := fz_year 1000000
  rw [foy_first] at a
  rw [foy_last] at b
  constructor
  · intro hn
    have : ¬ mz n < -11999988 := fun hc => by
      have := fz_mono (show mz n + 1 ≤ -999999 * 12 by omega)
      omega
    have : ¬ 12000000 ≤ mz n := fun hc => by
      have := fz_mono (show 1000000 * 12 ≤ mz n by omega)
      omega
    omega
  · intro hn
    have := fz_mono (show -999999 * 12 ≤ mz n by omega)
    have := fz_mono (show mz n + 1 ≤ 1000000 * 12 by omega)
    omega

theorem mv0_some {n k : Int} (h : -999999 ≤ (mz n + k) / 12 ∧ (mz n + k) / 12 ≤ 999999) : moved (dayCivil n) k 0 = some (mv0 n k) := by
  rw [moved_is, if_pos h]
  unfold mv0
  split
  · rfl
  · rw [if_pos rfl]

theorem between_f (x y : Int) : PySw11.between x y = if y < x then [-2] else if (isDay x && isDay y) = false then [-1] else
    match moved (dayCivil x) (if monthsFit (dayCivil x) (mz y - mz x) y = true then mz y - mz x else mz y - mz x - 1) 0 with
    | some z => [0, (if monthsFit (dayCivil x) (mz y - mz x) y = true then mz y - mz x else mz y - mz x - 1) / 12, (if monthsFit (dayCivil x) (mz y - mz x) y = true then mz y - mz x else mz y - mz x - 1) % 12, y - z]
    | none => [-1] := by
  have e : ((dayCivil y).y * 12 + ((dayCivil y).m : Int)) - ((dayCivil x).y * 12 + ((dayCivil x).m : Int)) = mz y - mz x := by
    unfold mz yof mof
    omega
  have : PySw11.between x y = flat (if y < x then says (-2) else if (isDay x && isDay y) = false then says (-1) else
    match moved (dayCivil x) (if monthsFit (dayCivil x) (((dayCivil y).y * 12 + ((dayCivil y).m : Int)) - ((dayCivil x).y * 12 + ((dayCivil x).m : Int))) y = true then (((dayCivil y).y * 12 + ((dayCivil y).m : Int)) - ((dayCivil x).y * 12 + ((dayCivil x).m : Int))) else (((dayCivil y).y * 12 + ((dayCivil y).m : Int)) - ((dayCivil x).y * 12 + ((dayCivil x).m : Int))) - 1) 0 with
    | some z => tells [(if monthsFit (dayCivil x) (((dayCivil y).y * 12 + ((dayCivil y).m : Int)) - ((dayCivil x).y * 12 + ((dayCivil x).m : Int))) y = true then (((dayCivil y).y * 12 + ((dayCivil y).m : Int)) - ((dayCivil x).y * 12 + ((dayCivil x).m : Int))) else (((dayCivil y).y * 12 + ((dayCivil y).m : Int)) - ((dayCivil x).y * 12 + ((dayCivil x).m : Int))) - 1) / 12, (if monthsFit (dayCivil x) (((dayCivil y).y * 12 + ((dayCivil y).m : Int)) - ((dayCivil x).y * 12 + ((dayCivil x).m : Int))) y = true then (((dayCivil y).y * 12 + ((dayCivil y).m : Int)) - ((dayCivil x).y * 12 + ((dayCivil x).m : Int))) else (((dayCivil y).y * 12 + ((dayCivil y).m : Int)) - ((dayCivil x).y * 12 + ((dayCivil x).m : Int))) - 1) % 12, y - z]
    | none => says (-1)) := rfl
  rw [this, e, flat_if, flat_if]
  cases moved (dayCivil x) (if monthsFit (dayCivil x) (mz y - mz x) y = true then mz y - mz x else mz y - mz x - 1) 0 <;> rfl
theorem between_before {x y : Int} (h : y < x) : PySw11.between x y = [-2] := by
  rw [between_f, if_pos h]
theorem between_no {x y : Int} (h : ¬ y < x) (hn : ¬ ((-365961662 ≤ x ∧ x ≤ 364522971) ∧ (-365961662 ≤ y ∧ y ≤ 364522971))) : PySw11.between x y = [-1] := by
  rw [between_f, if_neg h, if_pos]
  rw [Bool.eq_false_iff]
  intro h'
  rw [Bool.and_eq_true, isDay_iff, isDay_iff] at h'
  exact hn h'
/-- **Whole months between**: any number that fits, and one more doesn't. -/
theorem between_yes {x y k : Int} (hx : -365961662 ≤ x) (hy : y ≤ 364522971) (hk : 0 ≤ k) (h1 : mv0 x k ≤ y) (h2 : y < mv0 x (k + 1)) :
    PySw11.between x y = [0, k / 12, k % 12, y - mv0 x k] := by
  have h0 : x ≤ y := by
    rcases (by omega : k = 0 ∨ 0 < k) with e | e
    · rw [e, mv0_zero] at h1; exact h1
    · have := mv0_mono (n := x) e
      rw [mv0_zero] at this
      omega
  have dx : -365961662 ≤ x ∧ x ≤ 364522971 := by omega
  have dy : -365961662 ≤ y ∧ y ≤ 364522971 := by omega
  rw [between_f, if_neg (by omega), if_neg (by rw [Bool.not_eq_false, Bool.and_eq_true, isDay_iff, isDay_iff]; exact ⟨dx, dy⟩)]
  have yx := (year_in x).mp dx
  have yy := (year_in y).mp dy
  have my := mz_in y
  have mx := mz_in x
  have fit : monthsFit (dayCivil x) (mz y - mz x) y = true ↔ mv0 x (mz y - mz x) ≤ y := by
    unfold monthsFit
    rw [mv0_some (by rw [show mz x + (mz y - mz x) = mz y by omega]; exact yy)]
    simp only [decide_eq_true_eq]
  have hle : mz x ≤ mz y := by
    rcases (by omega : mz x ≤ mz y ∨ mz y + 1 ≤ mz x) with h | h
    · exact h
    · have := fz_mono h
      omega
  have key : (if monthsFit (dayCivil x) (mz y - mz x) y = true then mz y - mz x else mz y - mz x - 1) = k := by
    have u : ∀ j, mv0 x j ≤ y → y < mv0 x (j + 1) → j = k := by
      intro j j1 j2
      rcases (by omega : j = k ∨ j + 1 ≤ k ∨ k + 1 ≤ j) with h | h | h
      · exact h
      · rcases (by omega : j + 1 = k ∨ j + 1 < k) with h' | h'
        · rw [h'] at j2; omega
        · have := mv0_mono (n := x) h'; omega
      · rcases (by omega : k + 1 = j ∨ k + 1 < j) with h' | h'
        · rw [h'] at h2; omega
        · have := mv0_mono (n := x) h'; omega
    by_cases hf : mv0 x (mz y - mz x) ≤ y
    · rw [if_pos (fit.mpr hf)]
      refine u _ hf ?_
      have := mv0_in x (mz y - mz x + 1)
      rw [show mz x + (mz y - mz x + 1) = mz y + 1 by omega] at this
      omega
    · rw [if_neg (fun h => hf (fit.mp h))]
      refine u _ ?_ ?_
      · have := mv0_in x (mz y - mz x - 1)
        rw [show mz x + (mz y - mz x - 1) + 1 = mz y by omega] at this
        omega
      · rw [show mz y - mz x - 1 + 1 = mz y - mz x by omega]
        omega
  rw [key]
  have kz : mz x + k ≤ mz y := by
    have := mv0_in x k
    rcases (by omega : mz x + k ≤ mz y ∨ mz y + 1 ≤ mz x + k) with h | h
    · exact h
    · have := fz_mono h
      omega
  rw [mv0_some (by omega)]
end Cal
namespace Cal
open Sw11
theorem fm12 (a : Int) : Int.fmod a 12 = a % 12 := Int.fmod_eq_emod_of_nonneg a (by decide)
theorem fd12 (a : Int) : Int.fdiv a 12 = a / 12 := Int.fdiv_eq_ediv_of_nonneg a (by decide)
theorem fm12_in (a : Int) : 1 ≤ Int.fmod a 12 + 1 ∧ Int.fmod a 12 + 1 ≤ 12 := by rw [fm12]; omega
/-- The month of a day whose year is told. -/
def moy (_ n : Int) : Int := mof n
theorem moy_start {y n : Int} (h : y = yof n) : 1 ≤ (12 : Int) ∧ (12 : Int) ≤ 12 ∧ n < fom y (12 + 1) := by
  subst h; exact mstart n
theorem moy_turn {y n m : Int} (e : y = yof n) (h1 : 1 ≤ m) (h2 : m ≤ 12) (h : n < fom y m) : 1 ≤ m - 1 ∧ m - 1 ≤ 12 ∧ n < fom y (m - 1 + 1) := by
  subst e; exact mturn h1 h2 h
theorem moy_end {y n m : Int} (e : y = yof n) (h1 : 1 ≤ m) (h2 : m ≤ 12) (h3 : n < fom y (m + 1)) (h : ¬ n < fom y m) : m = moy y n := by
  subst e; exact mof_is h1 h2 (by omega) h3
theorem mz_tree (n : Int) : yof n * 12 + moy (yof n) n - 1 = mz n := by
  unfold mz moy; omega
theorem fz_tree (z : Int) : fom (Int.fdiv z 12) (Int.fmod z 12 + 1) = fz z := by
  rw [fm12, fd12]; rfl
theorem lz_tree (z : Int) : mlen (Int.fdiv z 12) (Int.fmod z 12 + 1) = lz z := by
  rw [fm12, fd12]; rfl
def din (n : Int) : Int := dom n - 1
theorem din_tree (n : Int) : n - fz (mz n) = din n := by
  unfold din; rw [dom_is]; omega
end Cal
namespace Cal
open Sw11
theorem din_in (n : Int) : 0 ≤ din n ∧ din n < 31 := by
  have := dom_in n
  have := lz_in (mz n)
  unfold din; omega
theorem mv_out {n k r : Int} (h : ¬ -24000000 ≤ k ∨ ¬ k ≤ 24000000 ∨ ¬ 0 ≤ r ∨ ¬ r ≤ 2) : [-2] = PySw11.move n k r := by
  rw [move_out (by omega)]
theorem mv_no {n k r : Int} (h : -24000000 ≤ k ∧ k ≤ 24000000 ∧ 0 ≤ r ∧ r ≤ 2) (hn : ¬ -365961662 ≤ n ∨ ¬ n ≤ 364522971) : [-1] = PySw11.move n k r := by
  rw [move_no h (by omega)]
theorem mv_ref {n k r : Int} (h : -24000000 ≤ k ∧ k ≤ 24000000 ∧ r = 2) (hn : -365961662 ≤ n ∧ n ≤ 364522971) (hp : ¬ din n < lz (mz n + k)) : [-1] = PySw11.move n k r := by
  rw [move_yes (by omega) hn, if_neg (by unfold din at hp; omega), if_neg (by omega), if_neg (by omega)]
theorem mv_at {z d : Int} (h0 : 0 ≤ d) (h1 : d < lz z) : (-365961662 ≤ fz z + d ∧ fz z + d ≤ 364522971) ↔ (-999999 ≤ z / 12 ∧ z / 12 ≤ 999999) := by
  have e : mz (fz z + d) = z := mz_eq (by omega) (by rw [fz_succ]; omega)
  rw [year_in, e]
theorem mv_place {n k r : Int} (h : -24000000 ≤ k ∧ k ≤ 24000000 ∧ 0 ≤ r ∧ r ≤ 2) (hn : -365961662 ≤ n ∧ n ≤ 364522971) (hp : din n < lz (mz n + k)) :
    PySw11.move n k r = if -365961662 ≤ fz (mz n + k) + din n ∧ fz (mz n + k) + din n ≤ 364522971 then [0, fz (mz n + k) + din n] else [-1] := by
  have a := mv_at (din_in n).1 hp
  have b : fz (mz n + k) + dom n - 1 = fz (mz n + k) + din n := by unfold din; omega
  rw [move_yes h hn, if_pos (by unfold din at hp; omega), b]
  by_cases c : -365961662 ≤ fz (mz n + k) + din n ∧ fz (mz n + k) + din n ≤ 364522971
  · rw [if_pos c, if_pos (a.mp c)]
  · rw [if_neg c, if_neg (fun x => c (a.mpr x))]
theorem mv_next {n k r : Int} (h : -24000000 ≤ k ∧ k ≤ 24000000 ∧ r = 1) (hn : -365961662 ≤ n ∧ n ≤ 364522971) (hp : ¬ din n < lz (mz n + k)) :
    PySw11.move n k r = if -365961662 ≤ fz (mz n + k + 1) ∧ fz (mz n + k + 1) ≤ 364522971 then [0, fz (mz n + k + 1)] else [-1] := by
  have a := mv_at (z := mz n + k + 1) (d := 0) (by omega) (by have := lz_in (mz n + k + 1); omega)
  rw [Int.add_zero] at a
  rw [move_yes (by omega) hn, if_neg (by unfold din at hp; omega), if_neg (by omega), if_pos (by omega)]
  by_cases c : -365961662 ≤ fz (mz n + k + 1) ∧ fz (mz n + k + 1) ≤ 364522971
  · rw [if_pos c, if_pos (a.mp c)]
  · rw [if_neg c, if_neg (fun x => c (a.mpr x))]
theorem mv_last {n k r : Int} (h : -24000000 ≤ k ∧ k ≤ 24000000 ∧ r = 0) (hn : -365961662 ≤ n ∧ n ≤ 364522971) (hp : ¬ din n < lz (mz n + k)) :
    PySw11.move n k r = if -365961662 ≤ fz (mz n + k + 1) - 1 ∧ fz (mz n + k + 1) - 1 ≤ 364522971 then [0, fz (mz n + k + 1) - 1] else [-1] := by
  have l := lz_in (mz n + k)
  have a := mv_at (z := mz n + k) (d := lz (mz n + k) - 1) (by omega) (by omega)
  have e : fz (mz n + k) + (lz (mz n + k) - 1) = fz (mz n + k + 1) - 1 := by rw [fz_succ]; omega
  have e' : fz (mz n + k) + lz (mz n + k) - 1 = fz (mz n + k + 1) - 1 := by rw [fz_succ]
  rw [e] at a
  rw [move_yes (by omega) hn, if_neg (by unfold din at hp; omega), if_pos (by omega), e']
  by_cases c : -365961662 ≤ fz (mz n + k + 1) - 1 ∧ fz (mz n + k + 1) - 1 ≤ 364522971
  · rw [if_pos c, if_pos (a.mp c)]
  · rw [if_neg c, if_neg (fun x => c (a.mpr x))]
/-- Moved, rule 0. -/
def mvl (n k : Int) : Int := if din n < lz (mz n + k) then fz (mz n + k) + din n else fz (mz n + k + 1) - 1
theorem mvl_is (n k : Int) : mvl n k = mv0 n k := by
  unfold mvl mv0 din
  rw [fz_succ]
  split <;> split <;> omega
/-- Whole months: that b's month is tried, or the one before it. -/
theorem bw_yes {a b k : Int} (ha : -365961662 ≤ a) (hb : b ≤ 364522971) (hab : a ≤ b) (h : (k = mz b - mz a ∧ mvl a k ≤ b) ∨ (k = mz b - mz a - 1 ∧ b < mvl a (mz b - mz a))) :
    PySw11.between a b = [0, k / 12, k % 12, b - mvl a k] := by
  simp only [mvl_is] at *
  have i := mz_in b
  have j := mz_in a
  have m : mz a ≤ mz b := by
    rcases (by omega : mz a ≤ mz b ∨ mz b + 1 ≤ mz a) with c | c
    · exact c
    · have := fz_mono c; omega
  rcases h with ⟨e, h⟩ | ⟨e, h⟩
  · refine between_yes ha hb (by omega) h ?_
    have t := mv0_in a (k + 1)
    rw [show mz a + (k + 1) = mz b + 1 by omega] at t
    omega
  · have t := mv0_in a k
    have k0 : 0 ≤ k := by
      rcases (by omega : 0 ≤ k ∨ mz b - mz a = 0) with c | c
      · exact c
      · rw [c, mv0_zero] at h; omega
    rw [show mz a + k + 1 = mz b by omega] at t
    refine between_yes ha hb k0 (by omega) ?_
    rw [show k + 1 = mz b - mz a by omega]; exact h
/-- Whether the month has place for the day. -/
def hpl (n k : Int) : Bool := decide (din n < lz (mz n + k))
/-- Moved as the program says it, the rule too; asked with rule 0 alone. -/
def mvl3 (n k _r : Int) : Int := mvl n k
theorem mvl3_place {n k r : Int} (hp : din n < lz (mz n + k)) : fz (mz n + k) + din n = mvl3 n k r := by
  unfold mvl3 mvl; rw [if_pos hp]
theorem mvl3_last {n k r : Int} (hp : ¬ din n < lz (mz n + k)) : fz (mz n + k + 1) - 1 = mvl3 n k r := by
  unfold mvl3 mvl; rw [if_neg hp]
theorem mvl3_h1 {n k r : Int} (hp : hpl n k = true) : fz (mz n + k) + din n = mvl3 n k r := mvl3_place (of_decide_eq_true hp)
theorem mvl3_h0 {n k r : Int} (hp : hpl n k = false) : fz (mz n + k + 1) - 1 = mvl3 n k r := mvl3_last (of_decide_eq_false hp)
theorem bw_before {a b : Int} (h : b < a) : [-2] = PySw11.between a b := (between_before h).symm
theorem bw_no {a b : Int} (h : ¬ b < a) (hn : ¬ -365961662 ≤ a ∨ ¬ a ≤ 364522971 ∨ ¬ -365961662 ≤ b ∨ ¬ b ≤ 364522971) : [-1] = PySw11.between a b := by
  rw [between_no h (by omega)]
end Cal
open PySem PySem.W
namespace Bw
open Cal
theorem before {a b : Int} (h : b < a) : [PyData.int (-2)] = List.map PyData.int (PySw11.between a b) := by
  rw [← bw_before h]; rfl
theorem no {a b : Int} (h : ¬ b < a) (hn : ¬ -365961662 ≤ a ∨ ¬ a ≤ 364522971 ∨ ¬ -365961662 ≤ b ∨ ¬ b ≤ 364522971) : [PyData.int (-1)] = List.map PyData.int (PySw11.between a b) := by
  rw [← bw_no h hn]; rfl
theorem yes1 {a b : Int} (h0 : ¬ b < a) (ha : -365961662 ≤ a) (hb : b ≤ 364522971) (h : ¬ b < mvl3 a (mz b - mz a) 0) :
    [PyData.int 0, PyData.int (Int.fdiv (mz b - mz a) 12), PyData.int (Int.fmod (mz b - mz a) 12), PyData.int (b - mvl3 a (mz b - mz a) 0)] = List.map PyData.int (PySw11.between a b) := by
  unfold mvl3 at *
  rw [bw_yes ha hb (by omega) (Or.inl ⟨rfl, by omega⟩), fd12, fm12]; rfl
theorem yes2 {a b : Int} (h0 : ¬ b < a) (ha : -365961662 ≤ a) (hb : b ≤ 364522971) (h : b < mvl3 a (mz b - mz a) 0) :
    [PyData.int 0, PyData.int (Int.fdiv (mz b - mz a - 1) 12), PyData.int (Int.fmod (mz b - mz a - 1) 12), PyData.int (b - mvl3 a (mz b - mz a - 1) 0)] = List.map PyData.int (PySw11.between a b) := by
  unfold mvl3 at *
  rw [bw_yes ha hb (by omega) (Or.inr ⟨rfl, by omega⟩), fd12, fm12]; rfl
end Bw
theorem said : PySem.Challenge.rw_dayround_s06_between.wellSaid = true := by decide +kernel
local macro_rules | `(tactic| walk_at "eval Call") => `(tactic| (k_here; (with_reducible show wpAny _ _ (eval (Expr.Call (Expr.Name _ _) _ [] _) _) _ _ _); k_dflt (refine PyProof.Rows.Call_ ?_)))
example : Int → Int → List Int → Int → Prop := (fun (y n : Int) (_ : List Int) (m : Int) => 1 ≤ m ∧ m ≤ 12 ∧ n < Cal.fom y (m + 1))
set_option maxRecDepth 100000 in
set_option maxHeartbeats 16000000 in
theorem PySem.Challenge.cw_dayround_s06_between_holds : PySem.Challenge.rw_dayround_s06_between.Holds := by
  k_with "tree" => first
    | (with_reducible show _ = Cal.foy _; simp only [Cal.foy, Cal.ys, Cal.fd4, Cal.fd100, Cal.fd400]; omega)
    | (with_reducible show _ = Sw11.long _; rw [Bool.eq_iff_iff, Cal.long_iff]; simp only [Cal.fm4, Cal.fm100, Cal.fm400] at *; simp; omega)
    | (with_reducible show _ = Sw11.long _; symm; rw [Cal.long_iff]; simp only [Cal.fm4, Cal.fm100, Cal.fm400] at *; omega)
    | (with_reducible show _ = Sw11.long _; symm; rw [Bool.eq_false_iff, ne_eq, Cal.long_iff]; simp only [Cal.fm4, Cal.fm100, Cal.fm400] at *; omega)
    | (with_reducible show _ = Cal.yof _; exact Cal.yof_tree _)
    | (with_reducible show _ = Cal.fom _ _; first | exact Cal.fom_long (by omega) (by omega) (by assumption) | exact Cal.fom_short (by omega) (by omega) | exact Cal.fom_plain (by omega) (by omega) (by assumption))
    | (with_reducible show _ = Cal.mlen _ _; first | (subst_vars; exact (Cal.mlen_feb (by assumption)).symm) | exact Cal.mlen_table (by omega) (by omega) (Or.inl (by assumption)) | exact Cal.mlen_table (by omega) (by omega) (Or.inr (by assumption)))
    | (with_reducible show _ = Cal.moy _ _; exact Cal.moy_end (by omega) (by assumption) (by assumption) (by assumption) (by assumption))
    | (with_reducible show _ = Cal.mz _; exact Cal.mz_tree _)
    | (with_reducible show _ = Cal.fz _; exact Cal.fz_tree _)
    | (with_reducible show _ = Cal.lz _; exact Cal.lz_tree _)
    | (with_reducible show _ = Cal.din _; exact Cal.din_tree _)
    | (with_reducible show _ = Cal.mvl3 _ _ _; first | (with_reducible exact Cal.mvl3_h1 (by assumption)) | (with_reducible exact Cal.mvl3_h0 (by assumption)))
    | (with_reducible show _ = Cal.hpl _ _; first | (with_reducible rfl) | (unfold Cal.hpl; simp_all))
  k_with "state" => first
    | exact Cal.moy_start (by omega)
    | exact Cal.moy_turn (by omega) (by assumption) (by assumption) (by assumption)
  k_with "size" => first
    | omega
    | exact Cal.fm12_in _
    | exact (Cal.fm12_in _).1
    | exact (Cal.fm12_in _).2
  k_with "call ref" => k_call_by "is_long" Sw11.long
  k_with "call ref" => k_call_by "first_of_year" Cal.foy
  k_with "call ref" => k_call_by "year_of" Cal.yof
  k_with "call ref" => k_call_rec "first_of_month" Cal.fom (fun (_ m : Int) => 1 ≤ m ∧ m ≤ 12) (fun (_ _ : Int) => 3)
  k_with "call ref" => k_call_rec "month_length" Cal.mlen (fun (_ m : Int) => 1 ≤ m ∧ m ≤ 12) (fun (_ _ : Int) => 3)
  k_with "call ref" => k_call_rec "month_of" Cal.moy (fun (y n : Int) => y = Cal.yof n) (fun (_ _ : Int) => 6)
  k_with "call ref" => k_call_rec "first_of_numbered" Cal.fz (fun (_ : Int) => True) (fun (_ : Int) => 6)
  k_with "call ref" => k_call_rec "length_of_numbered" Cal.lz (fun (_ : Int) => True) (fun (_ : Int) => 6)
  k_with "call ref" => k_call_rec "number_of_month" Cal.mz (fun (_ : Int) => True) (fun (_ : Int) => 9)
  k_with "call ref" => k_call_rec "days_into_month" Cal.din (fun (_ : Int) => True) (fun (_ : Int) => 12)
  k_with "call ref" => k_call_rec "has_place" Cal.hpl (fun (_ _ : Int) => True) (fun (_ _ : Int) => 14)
  k_with "call ref" => k_call_rec "moved" Cal.mvl3 (fun (_ _ r : Int) => r = 0) (fun (_ _ _ : Int) => 16)
  k_with "exec While Compare cons nil" => k_while_given ["year", "day"] (fun (y n : Int) (_ : List Int) (m : Int) => 1 ≤ m ∧ m ≤ 12 ∧ n < Cal.fom y (m + 1)) (fun _ _ _ m => m.toNat) "month"
  w_on; k_headS; (case hw => exact ⟨[.int 0, .int 0], by decide +kernel, by decide +kernel⟩)
  w_strict k_goS
  all_goals (
    os_open said with a w q e
    obtain ⟨n, k, u⟩ := a
    have e1 := os_j_int (List.cons.inj e).1
    have e2 := os_j_int (List.cons.inj (List.cons.inj e).2).1
    subst e1 e2
    show ofPy (PyData.list _) = WData.list (List.map WData.int (PySw11.between _ _))
    refine os_list ?_
    dsimp only
    first
      | ((with_reducible refine Bw.before ?_) <;> first | assumption | omega)
      | ((with_reducible refine Bw.no ?_ ?_) <;> first | assumption | omega)
      | ((with_reducible refine Bw.yes1 ?_ ?_ ?_ ?_) <;> first | assumption | omega)
      | ((with_reducible refine Bw.yes2 ?_ ?_ ?_ ?_) <;> first | assumption | omega))
#print axioms PySem.Challenge.cw_dayround_s06_between_holds
