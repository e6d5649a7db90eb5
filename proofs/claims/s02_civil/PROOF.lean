import PyProof.Rows.All
import Wide.All
import OpenK.AllK
import Wide.FinOn
import KE.OsGo
import KE.OsArgs
import PySem.Challenge.RW_dayround_s02_civil
set_option Elab.async false
namespace Cal
open Sw11

theorem fd4 (a : Int) : a.fdiv 4 = a / 4 := Int.fdiv_eq_ediv_of_nonneg a (by decide)
theorem fd100 (a : Int) : a.fdiv 100 = a / 100 := Int.fdiv_eq_ediv_of_nonneg a (by decide)
theorem fd400 (a : Int) : a.fdiv 400 = a / 400 := Int.fdiv_eq_ediv_of_nonneg a (by decide)
theorem fdE (a : Int) : a.fdiv 146097 = a / 146097 := Int.fdiv_eq_ediv_of_nonneg a (by decide)

theorem ys (y : Int) : yearStart y = 365 * y + (y + 3) / 4 - (y + 99) / 100 + (y + 399) / 400 := by
  simp only [yearStart, fd4, fd100, fd400]
theorem ys1970 : yearStart 1970 = 719528 := by decide
theorem first_is : FIRST = -365961662 := by decide
theorem last_is : LAST = 364522971 := by decide

theorem long_iff (y : Int) : long y = true ↔ (y % 4 = 0 ∧ y % 100 ≠ 0) ∨ y % 400 = 0 := by
  simp [long, bne]

theorem ys_succ (y : Int) : yearStart (y + 1) = yearStart y + (if long y = true then 366 else 365) := by
  rw [ys, ys]
  by_cases h : long y = true
  · rw [if_pos h]
    rw [long_iff] at h
    omega
  · rw [if_neg h]
    rw [long_iff] at h
    omega

theorem ys_mono {a b : Int} (h : a ≤ b) : yearStart a ≤ yearStart b := by
  rw [ys, ys]; omega

theorem ys_unique {a b z : Int} (h1 : yearStart a ≤ z) (h2 : z < yearStart (a + 1)) (h3 : yearStart b ≤ z) (h4 : z < yearStart (b + 1)) : a = b := by
  rcases (by omega : a = b ∨ a + 1 ≤ b ∨ b + 1 ≤ a) with h | h | h
  · exact h
  · have := ys_mono h; omega
  · have := ys_mono h; omega

/-- Days ahead of a month, by the long year's extra day. -/
def ahead (l : Bool) (m : Nat) : Nat :=
  match m with
  | 2 => 31
  | 3 => if l = true then 60 else 59
  | 4 => if l = true then 91 else 90
  | 5 => if l = true then 121 else 120
  | 6 => if l = true then 152 else 151
  | 7 => if l = true then 182 else 181
  | 8 => if l = true then 213 else 212
  | 9 => if l = true then 244 else 243
  | 10 => if l = true then 274 else 273
  | 11 => if l = true then 305 else 304
  | 12 => if l = true then 335 else 334
  | 13 => if l = true then 366 else 365
  | _ => 0

theorem before_is (y : Int) (m : Nat) (h : m ≤ 13) : before y m = ahead (long y) m := by
  unfold before
  cases hl : long y <;>
  (rcases (by omega : m = 0 ∨ m = 1 ∨ m = 2 ∨ m = 3 ∨ m = 4 ∨ m = 5 ∨ m = 6 ∨ m = 7 ∨ m = 8 ∨ m = 9 ∨ m = 10 ∨ m = 11 ∨ m = 12 ∨ m = 13) with h | h | h | h | h | h | h | h | h | h | h | h | h | h <;>
   subst h <;> simp [List.range_succ, monthDays, hl, ahead])

theorem before_succ (y : Int) (m : Nat) (h1 : 1 ≤ m) : before y (m + 1) = before y m + monthDays y m := by
  unfold before
  obtain ⟨k, rfl⟩ : ∃ k, m = k + 1 := ⟨m - 1, by omega⟩
  simp [List.range_succ]

theorem before_13 (y : Int) : before y 13 = (if long y = true then 366 else 365) := by
  rw [before_is y 13 (by omega)]
  rfl

theorem before_mono (y : Int) {a b : Nat} (h1 : 1 ≤ a) (h : a ≤ b) : before y a ≤ before y b := by
  induction b with
  | zero => omega
  | succ b ih =>
    rcases (by omega : a = b + 1 ∨ a ≤ b) with e | e
    · rw [e]; exact Nat.le_refl _
    · rw [before_succ y b (by omega)]
      have := ih e
      omega

theorem monthDays_in (y : Int) (m : Nat) : 28 ≤ monthDays y m ∧ monthDays y m ≤ 31 := by
  unfold monthDays
  repeat' split
  all_goals omega

theorem count_upto (p : Nat → Bool) (k : Nat) : ∀ (N : Nat), k ≤ N → (∀ i, i < k → p i = true) → (∀ i, k ≤ i → i < N → p i = false) → ((List.range N).filter p).length = k
  | 0, hk, _, _ => by simp; omega
  | N + 1, hk, h1, h2 => by
    rw [List.range_succ, List.filter_append, List.length_append]
    rcases (by omega : k = N + 1 ∨ k ≤ N) with e | e
    · have i := count_upto p N N (Nat.le_refl _) (fun i hi => h1 i (by omega)) (fun i a b => by omega)
      rw [i]
      simp [h1 N (by omega), e]
    · have i := count_upto p k N e h1 (fun i a b => h2 i a (by omega))
      rw [i]
      simp [h2 N e (by omega)]

/-- The year of a day, as worked out. -/
theorem dayCivil_year (n : Int) : yearStart (dayCivil n).y ≤ n + 719528 ∧ n + 719528 < yearStart ((dayCivil n).y + 1) := by
  simp only [dayCivil, ys1970, fdE]
  generalize hz : n + 719528 = z
  generalize hy : z * 400 / 146097 = y0
  have b1 : 146097 * y0 ≤ z * 400 := by omega
  have b2 : z * 400 < 146097 * y0 + 146097 := by omega
  have a1 := ys (y0 - 1)
  have a2 := ys y0
  have a3 := ys (y0 + 1)
  have a4 := ys (y0 + 1 + 1)
  have e0 : y0 - 1 + 1 = y0 := by omega
  by_cases h1 : yearStart (y0 + 1) ≤ z
  · rw [if_pos h1]
    exact ⟨h1, by omega⟩
  · rw [if_neg h1]
    by_cases h2 : z < yearStart y0
    · rw [if_pos h2, e0]
      exact ⟨by omega, h2⟩
    · rw [if_neg h2]
      exact ⟨by omega, by omega⟩

/-- **Whatever year, month and day of the month make a day are that day's.** -/
theorem dayCivil_eq {n : Int} {y : Int} {m d : Nat} (hm1 : 1 ≤ m) (hm2 : m ≤ 12) (hd1 : 1 ≤ d) (hd2 : d ≤ monthDays y m)
    (h : yearStart y + (before y m : Int) + (d : Int) - 1 = n + 719528) : dayCivil n = ⟨y, m, d⟩ := by
  have hy := dayCivil_year n
  have b1 := before_succ y m hm1
  have b2 := before_mono y (a := m + 1) (b := 13) (by omega) (by omega)
  have b3 := before_13 y
  have s := ys_succ y
  have ey : (dayCivil n).y = y := by
    refine ys_unique hy.1 hy.2 (by omega) ?_
    rw [s, show ((if long y = true then 366 else 365 : Int)) = ((if long y = true then 366 else 365 : Nat) : Int) by split <;> rfl]
    rw [← b3]
    omega
  have em : (dayCivil n).m = m := by
    have e : (dayCivil n).m = ((List.range 12).filter fun (k : Nat) => decide (before (dayCivil n).y (k + 1) ≤ (n + yearStart 1970 - yearStart (dayCivil n).y).toNat)).length := rfl
    rw [e, ey, ys1970]
    have ed : (n + 719528 - yearStart y).toNat = before y m + (d - 1) := by omega
    rw [ed]
    refine count_upto _ m 12 hm2 ?_ ?_
    · intro i hi
      have := before_mono y (a := i + 1) (b := m) (by omega) (by omega)
      simp only [decide_eq_true_eq]
      omega
    · intro i hi _
      have := before_mono y (a := m + 1) (b := i + 1) (by omega) (by omega)
      simp only [decide_eq_false_iff_not]
      omega
  have ed : (dayCivil n).d = d := by
    have e : (dayCivil n).d = (n + yearStart 1970 - yearStart (dayCivil n).y).toNat - before (dayCivil n).y (dayCivil n).m + 1 := rfl
    rw [e, ey, em, ys1970]
    omega
  cases hc : dayCivil n with
  | mk a b c =>
    rw [hc] at ey em ed
    simp only at ey em ed
    rw [ey, em, ed]

/-- **The other way: a day's year, month and day of the month make it.** -/
theorem dayCivil_right (n : Int) : 1 ≤ (dayCivil n).m ∧ (dayCivil n).m ≤ 12 ∧ 1 ≤ (dayCivil n).d ∧ (dayCivil n).d ≤ monthDays (dayCivil n).y (dayCivil n).m ∧
    yearStart (dayCivil n).y + (before (dayCivil n).y (dayCivil n).m : Int) + ((dayCivil n).d : Int) - 1 = n + 719528 := by
  have hy := dayCivil_year n
  generalize hc : (dayCivil n).y = y at *
  have s := ys_succ y
  have b3 := before_13 y
  have hb : before y 1 = 0 := by rfl
  have k : ∃ m d : Nat, 1 ≤ m ∧ m ≤ 12 ∧ 1 ≤ d ∧ d ≤ monthDays y m ∧ yearStart y + (before y m : Int) + (d : Int) - 1 = n + 719528 := by
    have hlt : (n + 719528 - yearStart y).toNat < before y 13 := by
      rw [b3]
      split at s
      · rw [if_pos (by assumption)]; omega
      · rw [if_neg (by assumption)]; omega
    have : ∀ M : Nat, 1 ≤ M → (n + 719528 - yearStart y).toNat < before y (M + 1) → ∃ m : Nat, 1 ≤ m ∧ m ≤ M ∧ before y m ≤ (n + 719528 - yearStart y).toNat ∧ (n + 719528 - yearStart y).toNat < before y (m + 1) := by
      intro M
      induction M with
      | zero => intro h; omega
      | succ M ih =>
        intro h1 h2
        by_cases h3 : before y (M + 1) ≤ (n + 719528 - yearStart y).toNat
        · exact ⟨M + 1, by omega, by omega, h3, h2⟩
        · rcases (by omega : M = 0 ∨ 1 ≤ M) with e | e
          · subst e
            have hb' : before y (0 + 1) = 0 := hb
            omega
          · obtain ⟨m, a, b, c, d⟩ := ih e (by omega)
            exact ⟨m, a, by omega, c, d⟩
    obtain ⟨m, h1, h2, h3, h4⟩ := this 12 (by omega) hlt
    rw [before_succ y m h1] at h4
    exact ⟨m, (n + 719528 - yearStart y).toNat - before y m + 1, h1, h2, by omega, by omega, by omega⟩
  obtain ⟨m, d, h1, h2, h3, h4, h5⟩ := k
  have e := dayCivil_eq h1 h2 h3 h4 h5
  have em : (dayCivil n).m = m := by rw [e]
  have ed : (dayCivil n).d = d := by rw [e]
  rw [em, ed]
  exact ⟨h1, h2, h3, h4, h5⟩
end Cal
namespace Cal
open Sw11

def foy (y : Int) : Int := yearStart y - 719528
def fom (y m : Int) : Int := yearStart y - 719528 + (before y m.toNat : Int)
def yof (n : Int) : Int := (dayCivil n).y
def mof (n : Int) : Int := ((dayCivil n).m : Int)
def mlen (y m : Int) : Int := (monthDays y m.toNat : Int)

theorem foy_is (y : Int) : -719162 + (y - 1) * 365 + (Int.fdiv (y - 1) 4 - Int.fdiv (y - 1) 100 + Int.fdiv (y - 1) 400) = foy y := by
  rw [foy, ys, fd4, fd100, fd400]
  omega

theorem ys_at {q c f g : Int} (hc0 : 0 ≤ c) (hc : c ≤ 3) (hf0 : 0 ≤ f) (hf : f ≤ 24) (hg0 : 0 ≤ g) (hg : g ≤ 3) :
    yearStart (1 + q * 400 + c * 100 + f * 4 + g) = 366 + 146097 * q + 36524 * c + 1461 * f + 365 * g := by
  rw [ys]
  have e1 : (1 + q * 400 + c * 100 + f * 4 + g + 3) / 4 = q * 100 + c * 25 + f + 1 := by omega
  have e2 : (1 + q * 400 + c * 100 + f * 4 + g + 99) / 100 = q * 4 + c + 1 := by omega
  have e3 : (1 + q * 400 + c * 100 + f * 4 + g + 399) / 400 = q + 1 := by omega
  rw [e1, e2, e3]
  omega

theorem yof_is {n q r c f g : Int} (e : n + 719162 = 146097 * q + r) (r0 : 0 ≤ r) (r1 : r < 146097)
    (hc : (c = r / 36524 ∧ r / 36524 ≤ 3) ∨ (c = 3 ∧ 3 ≤ r / 36524))
    (hf : f = (r - c * 36524) / 1461)
    (hg : (g = (r - c * 36524) % 1461 / 365 ∧ (r - c * 36524) % 1461 / 365 ≤ 3) ∨ (g = 3 ∧ 3 ≤ (r - c * 36524) % 1461 / 365)) :
    1 + q * 400 + c * 100 + f * 4 + g = yof n := by
  have c0 : 0 ≤ c ∧ c ≤ 3 ∧ 36524 * c ≤ r ∧ r ≤ 36524 * c + 36524 ∧ (r = 36524 * c + 36524 → c = 3) := by
    rcases hc with h | h <;> omega
  obtain ⟨c0, c1, c2, c3, c4⟩ := c0
  generalize hk : r - c * 36524 = k at *
  have f0 : 0 ≤ f ∧ f ≤ 24 := by omega
  have g0 : 0 ≤ g ∧ g ≤ 3 ∧ 365 * g ≤ k % 1461 ∧ k % 1461 ≤ 365 * g + 365 ∧ (k % 1461 = 365 * g + 365 → g = 3) := by
    rcases hg with h | h <;> omega
  obtain ⟨g0, g1, g2, g3, g4⟩ := g0
  have hy := dayCivil_year n
  have a := ys_at (q := q) c0 c1 f0.1 f0.2 g0 g1
  refine ys_unique (z := n + 719528) ?_ ?_ hy.1 hy.2
  · rw [a]; omega
  · rw [ys_succ, a]
    generalize hY : 1 + q * 400 + c * 100 + f * 4 + g = Y
    by_cases hl : long Y = true
    · rw [if_pos hl]; omega
    · rw [if_neg hl]
      rw [long_iff] at hl
      omega
end Cal
namespace Cal
open Sw11

/-- An answer as a list. -/
def flat (a : Ans) : List Int := a.code :: (a.nums ++ a.out.map fun (c : UInt8) => (c.toNat : Int))
theorem flat_if {p : Prop} [Decidable p] (a b : Ans) : flat (if p then a else b) = if p then flat a else flat b := by
  split <;> rfl
theorem day_f (y m d : Int) : PySw11.day y m d = if (civilOf y m d).right = true then [0, (civilOf y m d).day] else [-1] := by
  show flat (if (civilOf y m d).right = true then tells [(civilOf y m d).day] else says (-1)) = _
  rw [flat_if]
  rfl
theorem civil_f (n : Int) : PySw11.civil n = if isDay n = true then [0, (dayCivil n).y, ((dayCivil n).m : Int), ((dayCivil n).d : Int)] else [-1] := by
  show flat (if isDay n = true then tells [(dayCivil n).y, ((dayCivil n).m : Int), ((dayCivil n).d : Int)] else says (-1)) = _
  rw [flat_if]
  rfl

theorem isDay_iff (n : Int) : isDay n = true ↔ -365961662 ≤ n ∧ n ≤ 364522971 := by
  simp [isDay, first_is, last_is]

theorem right_iff (y m d : Int) : (civilOf y m d).right = true ↔ -999999 ≤ y ∧ y ≤ 999999 ∧ 1 ≤ m ∧ m ≤ 12 ∧ 1 ≤ d ∧ d ≤ mlen y m := by
  unfold Civil.right civilOf isYear mlen
  simp only [Bool.and_eq_true, decide_eq_true_eq]
  have eY : YEARS = 999999 := rfl
  rw [eY]
  by_cases hm : m < 0
  · rw [if_pos hm]
    omega
  · rw [if_neg hm]
    by_cases hd : d < 0
    · rw [if_pos hd]; omega
    · rw [if_neg hd]; omega

theorem day_no {y m d : Int} (h : ¬ (-999999 ≤ y ∧ y ≤ 999999 ∧ 1 ≤ m ∧ m ≤ 12 ∧ 1 ≤ d ∧ d ≤ mlen y m)) : PySw11.day y m d = [-1] := by
  rw [day_f, if_neg (fun h' => h ((right_iff y m d).mp h'))]
theorem day_yes {y m d : Int} (h : -999999 ≤ y ∧ y ≤ 999999 ∧ 1 ≤ m ∧ m ≤ 12 ∧ 1 ≤ d ∧ d ≤ mlen y m) : PySw11.day y m d = [0, fom y m + d - 1] := by
  rw [day_f, if_pos ((right_iff y m d).mpr h)]
  unfold civilOf Civil.day fom
  rw [if_neg (by omega), if_neg (by omega), ys1970]
  simp only
  congr 2
  omega

theorem civil_no {n : Int} (h : ¬ (-365961662 ≤ n ∧ n ≤ 364522971)) : PySw11.civil n = [-1] := by
  rw [civil_f, if_neg (fun h' => h ((isDay_iff n).mp h'))]
theorem civil_yes {n : Int} (h : -365961662 ≤ n ∧ n ≤ 364522971) : PySw11.civil n = [0, yof n, mof n, n - fom (yof n) (mof n) + 1] := by
  rw [civil_f, if_pos ((isDay_iff n).mpr h)]
  have r := dayCivil_right n
  unfold yof mof fom
  have e : ((dayCivil n).d : Int) = n - (yearStart (dayCivil n).y - 719528 + (before (dayCivil n).y ((dayCivil n).m : Int).toNat : Int)) + 1 := by
    rw [Int.toNat_natCast]
    omega
  rw [e]

/-- The table of the days ahead of each month, as the program has it. -/
theorem fom_short {y m : Int} (h : 1 ≤ m) (h' : m ≤ 2) : foy y + ([0, 31, 59, 90, 120, 151, 181, 212, 243, 273, 304, 334] : List Int).getD (m - 1).toNat 0 = fom y m := by
  unfold foy fom
  rw [before_is y m.toNat (by omega)]
  rcases (by omega : m = 1 ∨ m = 2) with e | e <;> subst e <;> rfl
theorem fom_plain {y m : Int} (h : 1 ≤ m) (h' : m ≤ 12) (hl : long y = false) : foy y + ([0, 31, 59, 90, 120, 151, 181, 212, 243, 273, 304, 334] : List Int).getD (m - 1).toNat 0 = fom y m := by
  unfold foy fom
  rw [before_is y m.toNat (by omega), hl]
  rcases (by omega : m = 1 ∨ m = 2 ∨ m = 3 ∨ m = 4 ∨ m = 5 ∨ m = 6 ∨ m = 7 ∨ m = 8 ∨ m = 9 ∨ m = 10 ∨ m = 11 ∨ m = 12) with e | e | e | e | e | e | e | e | e | e | e | e <;> subst e <;> rfl
theorem fom_long {y m : Int} (h : 3 ≤ m) (h' : m ≤ 12) (hl : long y = true) : foy y + ([0, 31, 59, 90, 120, 151, 181, 212, 243, 273, 304, 334] : List Int).getD (m - 1).toNat 0 + 1 = fom y m := by
  unfold foy fom
  rw [before_is y m.toNat (by omega), hl]
  rcases (by omega : m = 3 ∨ m = 4 ∨ m = 5 ∨ m = 6 ∨ m = 7 ∨ m = 8 ∨ m = 9 ∨ m = 10 ∨ m = 11 ∨ m = 12) with e | e | e | e | e | e | e | e | e | e <;> subst e <;> (simp [ahead]; omega)

/-- The months' lengths, as the program has them. -/
theorem mlen_table {y m : Int} (h : 1 ≤ m) (h' : m ≤ 12) (hl : m ≠ 2 ∨ long y = false) : ([31, 28, 31, 30, 31, 30, 31, 31, 30, 31, 30, 31] : List Int).getD (m - 1).toNat 0 = mlen y m := by
  unfold mlen monthDays
  rcases (by omega : m = 1 ∨ m = 2 ∨ m = 3 ∨ m = 4 ∨ m = 5 ∨ m = 6 ∨ m = 7 ∨ m = 8 ∨ m = 9 ∨ m = 10 ∨ m = 11 ∨ m = 12) with e | e | e | e | e | e | e | e | e | e | e | e <;> subst e <;> first | rfl | (rcases hl with hl | hl; exact absurd rfl hl; rw [hl]; rfl)
theorem mlen_feb {y : Int} (hl : long y = true) : mlen y 2 = 29 := by
  unfold mlen monthDays
  rw [hl]
  rfl
theorem mlen_in (y m : Int) : 28 ≤ mlen y m ∧ mlen y m ≤ 31 := by
  have := monthDays_in y m.toNat
  unfold mlen
  omega
theorem fom_succ (y : Int) {m : Int} (h : 1 ≤ m) : fom y (m + 1) = fom y m + mlen y m := by
  unfold fom mlen
  rw [show (m + 1).toNat = m.toNat + 1 by omega, before_succ y m.toNat (by omega)]
  omega
theorem fom_13 (y : Int) : fom y 13 = foy (y + 1) := by
  unfold fom foy
  rw [show (13 : Int).toNat = 13 from rfl, before_13, ys_succ]
  split <;> omega
theorem fom_1 (y : Int) : fom y 1 = foy y := by
  unfold fom foy
  rw [show (1 : Int).toNat = 1 from rfl, show before y 1 = 0 from rfl]
  omega
theorem yof_in (n : Int) : foy (yof n) ≤ n ∧ n < foy (yof n + 1) := by
  have := dayCivil_year n
  unfold foy yof
  omega
/-- The month: the last one whose first isn't after the day. -/
theorem mof_is {n m : Int} (h1 : 1 ≤ m) (h2 : m ≤ 12) (h3 : fom (yof n) m ≤ n) (h4 : n < fom (yof n) (m + 1)) : m = mof n := by
  rw [fom_succ _ h1] at h4
  have e := dayCivil_eq (n := n) (y := yof n) (m := m.toNat) (d := (n - fom (yof n) m + 1).toNat) (by omega) (by omega) (by omega) (by unfold mlen at h4; omega) (by unfold fom at *; omega)
  unfold mof
  rw [e]
  simp only
  omega
theorem mof_in (n : Int) : 1 ≤ mof n ∧ mof n ≤ 12 ∧ fom (yof n) (mof n) ≤ n ∧ n < fom (yof n) (mof n) + mlen (yof n) (mof n) := by
  have r := dayCivil_right n
  unfold mof fom yof mlen
  simp only [Int.toNat_natCast]
  omega
end Cal
namespace Cal
open Sw11
theorem fm4 (a : Int) : Int.fmod a 4 = a % 4 := Int.fmod_eq_emod_of_nonneg a (by decide)
theorem fm100 (a : Int) : Int.fmod a 100 = a % 100 := Int.fmod_eq_emod_of_nonneg a (by decide)
theorem fm400 (a : Int) : Int.fmod a 400 = a % 400 := Int.fmod_eq_emod_of_nonneg a (by decide)
/-- The program's own way to say that a year is long. -/
theorem long_t {y : Int} (h : (Int.fmod y 4 = 0 ∧ Int.fmod y 100 ≠ 0) ∨ (Int.fmod y 4 = 0 ∧ Int.fmod y 400 = 0)) : true = long y := by
  rw [fm4, fm100, fm400] at h
  symm
  rw [long_iff]
  omega
theorem mstart (n : Int) : 1 ≤ (12 : Int) ∧ (12 : Int) ≤ 12 ∧ n < fom (yof n) (12 + 1) := by
  refine ⟨by omega, by omega, ?_⟩
  have := yof_in n
  rw [show (12 : Int) + 1 = 13 from rfl, fom_13]
  omega
theorem mturn {n m : Int} (h1 : 1 ≤ m) (h2 : m ≤ 12) (h : n < fom (yof n) m) : 1 ≤ m - 1 ∧ m - 1 ≤ 12 ∧ n < fom (yof n) (m - 1 + 1) := by
  have := yof_in n
  refine ⟨?_, by omega, by rw [show m - 1 + 1 = m by omega]; exact h⟩
  rcases (by omega : m = 1 ∨ 1 ≤ m - 1) with e | e
  · subst e
    rw [fom_1] at h
    omega
  · exact e
theorem mend {n m : Int} (hn : -365961662 ≤ n ∧ n ≤ 364522971) (h1 : 1 ≤ m) (h2 : m ≤ 12) (h : n < fom (yof n) (m + 1)) (h' : ¬ n < fom (yof n) m) :
    [0, yof n, m, n - fom (yof n) m + 1] = PySw11.civil n := by
  rw [civil_yes hn, mof_is h1 h2 (by omega) h]
theorem fom_tree {y m v : Int} (h1 : 1 ≤ m) (h2 : m ≤ 12) (h : (2 < m ∧ long y = true ∧ v = foy y + ([0, 31, 59, 90, 120, 151, 181, 212, 243, 273, 304, 334] : List Int).getD (m - 1).toNat 0 + 1) ∨ ((¬ 2 < m ∨ long y = false) ∧ v = foy y + ([0, 31, 59, 90, 120, 151, 181, 212, 243, 273, 304, 334] : List Int).getD (m - 1).toNat 0)) : v = fom y m := by
  rcases h with ⟨a, b, c⟩ | ⟨a, c⟩
  · rw [c]; exact fom_long (by omega) h2 b
  · rw [c]
    rcases a with a | a
    · exact fom_short h1 (by omega)
    · exact fom_plain h1 h2 a
end Cal
namespace Cal
open Sw11
/-- The year of a day, as the program works it out. -/
theorem yof_tree (n : Int) : (1 + (n - -719162).fdiv 146097 * 400 + (if 3 < ((n - -719162).fmod 146097).fdiv 36524 then 3 else ((n - -719162).fmod 146097).fdiv 36524) * 100 +
      ((n - -719162).fmod 146097 - (if 3 < ((n - -719162).fmod 146097).fdiv 36524 then 3 else ((n - -719162).fmod 146097).fdiv 36524) * 36524).fdiv 1461 * 4 +
    if 3 < (((n - -719162).fmod 146097 - (if 3 < ((n - -719162).fmod 146097).fdiv 36524 then 3 else ((n - -719162).fmod 146097).fdiv 36524) * 36524).fmod 1461).fdiv 365 then 3
    else (((n - -719162).fmod 146097 - (if 3 < ((n - -719162).fmod 146097).fdiv 36524 then 3 else ((n - -719162).fmod 146097).fdiv 36524) * 36524).fmod 1461).fdiv 365) = yof n := by
  have f1 : ∀ a : Int, a.fdiv 146097 = a / 146097 := fdE
  have f2 : ∀ a : Int, a.fmod 146097 = a % 146097 := fun a => Int.fmod_eq_emod_of_nonneg a (by decide)
  have f3 : ∀ a : Int, a.fdiv 36524 = a / 36524 := fun a => Int.fdiv_eq_ediv_of_nonneg a (by decide)
  have f4 : ∀ a : Int, a.fdiv 1461 = a / 1461 := fun a => Int.fdiv_eq_ediv_of_nonneg a (by decide)
  have f5 : ∀ a : Int, a.fmod 1461 = a % 1461 := fun a => Int.fmod_eq_emod_of_nonneg a (by decide)
  have f6 : ∀ a : Int, a.fdiv 365 = a / 365 := fun a => Int.fdiv_eq_ediv_of_nonneg a (by decide)
  simp only [f1, f2, f3, f4, f5, f6]
  refine yof_is (r := (n - -719162) % 146097) (by omega) (by omega) (by omega) ?_ rfl ?_
  · split
    · exact Or.inr ⟨rfl, by omega⟩
    · exact Or.inl ⟨rfl, by omega⟩
  · generalize ((n - -719162) % 146097 - (if 3 < (n - -719162) % 146097 / 36524 then 3 else (n - -719162) % 146097 / 36524) * 36524) % 1461 / 365 = g
    split
    · exact Or.inr ⟨rfl, by omega⟩
    · exact Or.inl ⟨rfl, by omega⟩
abbrev tabl (m : Int) : Int := ([0, 31, 59, 90, 120, 151, 181, 212, 243, 273, 304, 334] : List Int).getD (m - 1).toNat 0
theorem turnL {n m : Int} (h1 : 1 ≤ m) (h2 : m ≤ 12) (h3 : 2 < m) (hl : long (yof n) = true) (h : n < foy (yof n) + ([0, 31, 59, 90, 120, 151, 181, 212, 243, 273, 304, 334] : List Int).getD (m - 1).toNat 0 + 1) :
    1 ≤ m - 1 ∧ m - 1 ≤ 12 ∧ n < fom (yof n) (m - 1 + 1) := by
  rw [fom_long (by omega) h2 hl] at h
  exact mturn h1 h2 h
theorem turnP {n m : Int} (h1 : 1 ≤ m) (h2 : m ≤ 12) (hl : long (yof n) = false) (h : n < foy (yof n) + ([0, 31, 59, 90, 120, 151, 181, 212, 243, 273, 304, 334] : List Int).getD (m - 1).toNat 0) :
    1 ≤ m - 1 ∧ m - 1 ≤ 12 ∧ n < fom (yof n) (m - 1 + 1) := by
  rw [fom_plain h1 h2 hl] at h
  exact mturn h1 h2 h
theorem turnS {n m : Int} (h1 : 1 ≤ m) (h2 : m ≤ 12) (h3 : ¬ 2 < m) (h : n < foy (yof n) + ([0, 31, 59, 90, 120, 151, 181, 212, 243, 273, 304, 334] : List Int).getD (m - 1).toNat 0) :
    1 ≤ m - 1 ∧ m - 1 ≤ 12 ∧ n < fom (yof n) (m - 1 + 1) := by
  rw [fom_short h1 (by omega)] at h
  exact mturn h1 h2 h
theorem endAny {n m v : Int} (hn : -365961662 ≤ n) (hn' : n ≤ 364522971) (h1 : 1 ≤ m) (h2 : m ≤ 12) (h : n < fom (yof n) (m + 1)) (hv : v = fom (yof n) m) (h' : ¬ n < v) :
    [0, yof n, m, n - v + 1] = PySw11.civil n := by
  subst hv
  exact mend ⟨hn, hn'⟩ h1 h2 h h'
end Cal
open PySem PySem.W
namespace Civ
open Cal
theorem no {n : Int} (h : ¬ -365961662 ≤ n ∨ ¬ n ≤ 364522971) : [PyData.int (-1)] = List.map PyData.int (PySw11.civil n) := by
  rw [civil_no (by omega)]; rfl
theorem yes {n m v : Int} (hn : -365961662 ≤ n) (hn' : n ≤ 364522971) (h1 : 1 ≤ m) (h2 : m ≤ 12) (h : n < fom (yof n) (m + 1)) (h' : ¬ n < v) (hv : v = fom (yof n) m) :
    [PyData.int 0, PyData.int (yof n), PyData.int m, PyData.int (n - v + 1)] = List.map PyData.int (PySw11.civil n) := by
  rw [← endAny hn hn' h1 h2 h hv h']; rfl
end Civ
theorem said : PySem.Challenge.rw_dayround_s02_civil.wellSaid = true := by decide +kernel
local macro_rules | `(tactic| walk_at "eval Call") => `(tactic| (k_here; (with_reducible show wpAny _ _ (eval (Expr.Call (Expr.Name _ _) _ [] _) _) _ _ _); k_dflt (refine PyProof.Rows.Call_ ?_)))
example : Int → Int → List Int → Int → Prop := (fun (y n : Int) (_ : List Int) (m : Int) => 1 ≤ m ∧ m ≤ 12 ∧ n < Cal.fom y (m + 1))
set_option maxRecDepth 100000 in
set_option maxHeartbeats 8000000 in
theorem PySem.Challenge.cw_dayround_s02_civil_holds : PySem.Challenge.rw_dayround_s02_civil.Holds := by
  k_with "tree" => first
    | (with_reducible show _ = Cal.foy _; simp only [Cal.foy, Cal.ys, Cal.fd4, Cal.fd100, Cal.fd400]; omega)
    | (with_reducible show _ = Sw11.long _; rw [Bool.eq_iff_iff, Cal.long_iff]; simp only [Cal.fm4, Cal.fm100, Cal.fm400] at *; simp; omega)
    | (with_reducible show _ = Sw11.long _; symm; rw [Cal.long_iff]; simp only [Cal.fm4, Cal.fm100, Cal.fm400] at *; omega)
    | (with_reducible show _ = Sw11.long _; symm; rw [Bool.eq_false_iff, ne_eq, Cal.long_iff]; simp only [Cal.fm4, Cal.fm100, Cal.fm400] at *; omega)
    | (with_reducible show _ = Cal.yof _; exact Cal.yof_tree _)
    | (with_reducible show _ = Cal.fom _ _; first | exact Cal.fom_long (by omega) (by omega) (by assumption) | exact Cal.fom_short (by omega) (by omega) | exact Cal.fom_plain (by omega) (by omega) (by assumption))
  k_with "state" => first
    | exact Cal.mstart _
    | exact Cal.mturn (by assumption) (by assumption) (by assumption)
    | exact Cal.turnL (by assumption) (by assumption) (by assumption) (by assumption) (by assumption)
    | exact Cal.turnP (by assumption) (by assumption) (by assumption) (by assumption)
    | exact Cal.turnS (by assumption) (by assumption) (by assumption) (by assumption)
  k_with "call ref" => k_call_by "is_long" Sw11.long
  k_with "call ref" => k_call_by "first_of_year" Cal.foy
  k_with "call ref" => k_call_by "year_of" Cal.yof
  k_with "call ref" => k_call_rec "first_of_month" Cal.fom (fun (_ m : Int) => 1 ≤ m ∧ m ≤ 12) (fun (_ _ : Int) => 3)
  k_with "exec While Compare cons nil" => k_while_given ["year", "day"] (fun (y n : Int) (_ : List Int) (m : Int) => 1 ≤ m ∧ m ≤ 12 ∧ n < Cal.fom y (m + 1)) (fun _ _ _ m => m.toNat) "month"
  w_on; k_headS; (case hw => exact ⟨[.int 0], by decide +kernel, by decide +kernel⟩)
  w_strict k_goS
  all_goals (
    os_open said with a w q e
    obtain ⟨n, u⟩ := a
    have e1 := os_j_int (List.cons.inj e).1
    subst e1
    show ofPy (PyData.list _) = WData.list (List.map WData.int (PySw11.civil _))
    refine os_list ?_
    dsimp only
    first
      | exact Civ.no (by omega)
      | (refine Civ.yes ?_ ?_ ?_ ?_ ?_ ?_ ?_ <;> first | assumption | rfl | (exact Cal.fom_long (by omega) (by omega) (by assumption)) | (exact Cal.fom_short (by omega) (by omega)) | (exact Cal.fom_plain (by omega) (by omega) (by assumption))))
#print axioms PySem.Challenge.cw_dayround_s02_civil_holds
