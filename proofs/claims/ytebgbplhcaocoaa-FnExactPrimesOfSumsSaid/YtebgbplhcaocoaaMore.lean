/- Sums and products within the limit, as the model takes them. -/
import Derived.Test.YtebgbplhcaocoaaWhole
import Derived.IntWalk
set_option linter.unusedSimpArgs false
set_option linter.unusedVariables false
namespace Go.Proofs.Ytebgbplhcaocoaa
open Go.RowKit

theorem absI (n : Int) : (if n < -n then -n else n) = (n.natAbs : Int) := by
  by_cases h : n < -n
  · rw [if_pos h]; omega
  · rw [if_neg h]; omega
def MW : Int := 1000000000000000
def fits (a b : Int) : Bool := decide (-1000000000000000 ≤ a * b) && decide (a * b ≤ 1000000000000000)

theorem fits_div {a b : Int} (hz : ¬ a = 0) : fits a b = !decide ((1000000000000000 / (a.natAbs : Int)) < (b.natAbs : Int)) := by
  have h0 : 0 < (a.natAbs : Int) := by omega
  have e1 : ((1000000000000000 / (a.natAbs : Int)) < (b.natAbs : Int)) ↔ 1000000000000000 < (b.natAbs : Int) * (a.natAbs : Int) := Int.ediv_lt_iff_lt_mul h0
  have e2 : (b.natAbs : Int) * (a.natAbs : Int) = ((a * b).natAbs : Int) := by rw [Int.natAbs_mul, Nat.mul_comm]; simp
  rw [e2] at e1
  unfold fits
  generalize a * b = p at *
  generalize 1000000000000000 / (a.natAbs : Int) = q at *
  by_cases h : 1000000000000000 < (p.natAbs : Int)
  · rw [decide_eq_true (e1.2 h)]
    by_cases h1 : -1000000000000000 ≤ p
    · have h2 : ¬ p ≤ 1000000000000000 := by omega
      simp [h2]
    · simp [h1]
  · rw [decide_eq_false (fun h' => h (e1.1 h'))]
    have h1 : -1000000000000000 ≤ p := by omega
    have h2 : p ≤ 1000000000000000 := by omega
    simp [h1, h2]

theorem more_bad (s a b : Int) (ha1 : -1000000000000000 ≤ a) (ha2 : a ≤ 1000000000000000) (hb1 : -1000000000000000 ≤ b) (hb2 : b ≤ 1000000000000000) (hf : fits a b = false) (w : World) :
    Calls Try.prog 70 #[.int .i64 s, .int .i64 a, .int .i64 b] w fun e w' => e = .returned (.tuple #[.int .i64 0, .bool false]) ∧ Qt w w' := by
  have hz : ¬ a = 0 := by intro e; subst e; simp [fits] at hf
  have hz' : (a != 0) = true := by simpa using hz
  rw [fits_div hz] at hf
  have hd : (1000000000000000 / (a.natAbs : Int)) < (b.natAbs : Int) := by simpa using hf
  rw [← absI a, ← absI b] at hd
  clear hf
  go_enter Try.func70, Try.ntmps70
  go_wp2
  all_goals
    go_ret2
    exact ⟨rfl, Qt.refl _⟩

theorem more_ok (s a b : Int) (hs1 : -1000000000000000 ≤ s) (hs2 : s ≤ 1000000000000000) (ha1 : -1000000000000000 ≤ a) (ha2 : a ≤ 1000000000000000) (hb1 : -1000000000000000 ≤ b) (hb2 : b ≤ 1000000000000000) (hf : fits a b = true) (w : World) :
    Calls Try.prog 70 #[.int .i64 s, .int .i64 a, .int .i64 b] w fun e w' => e = .returned (.tuple #[.int .i64 (s + a * b), .bool (inW (s + a * b))]) ∧ Qt w w' := by
  have hp : -1000000000000000 ≤ a * b ∧ a * b ≤ 1000000000000000 := by simpa [fits] using hf
  obtain ⟨hp1, hp2⟩ := hp
  by_cases hz : a = 0
  · have hz' : (a != 0) = false := by simp [hz]
    clear hf
    have HZ := Lib.hid hz
    clear hz
    go_enter Try.func70, Try.ntmps70
    go_wp2_with (go_at_call 65; refine (l01In _ _ _ _).mono ?_; rintro e w' ⟨rfl, ⟨m', rfl⟩⟩)
    go_ret2
    exact ⟨rfl, (Qt.refl _).drewN _⟩
  · have hz' : (a != 0) = true := by simpa using hz
    rw [fits_div hz] at hf
    have hd : ¬ (1000000000000000 / (a.natAbs : Int)) < (b.natAbs : Int) := by simpa using hf
    rw [← absI a, ← absI b] at hd
    clear hf
    go_enter Try.func70, Try.ntmps70
    go_wp2_with (go_at_call 65; refine (l01In _ _ _ _).mono ?_; rintro e w' ⟨rfl, ⟨m', rfl⟩⟩)
    all_goals
      go_ret2
      exact ⟨rfl, (Qt.refl _).drewN _⟩

/-- a sum and the product of two numbers together, both within the limit -/
def moreB (s a b : Int) : Bool := fits a b && inW (s + a * b)
def MoreQ (s a b : Int) (e : Ending) : Prop := ∃ o : Int, (moreB s a b = true → o = s + a * b) ∧ e = .returned (.tuple #[.int .i64 o, .bool (moreB s a b)])
def Lim (a : Int) : Prop := -1000000000000000 ≤ a ∧ a ≤ 1000000000000000

theorem l01More (s a b : Int) (hs : Lim s) (ha : Lim a) (hb : Lim b) (w : World) :
    Calls Try.prog 70 #[.int .i64 s, .int .i64 a, .int .i64 b] w fun e w' => MoreQ s a b e ∧ Qt w w' := by
  cases hf : fits a b with
  | false => exact (more_bad s a b ha.1 ha.2 hb.1 hb.2 hf w).mono fun e w' ⟨he, hq⟩ => ⟨⟨0, by simp [moreB, hf], by rw [he]; simp [moreB, hf]⟩, hq⟩
  | true => exact (more_ok s a b hs.1 hs.2 ha.1 ha.2 hb.1 hb.2 hf w).mono fun e w' ⟨he, hq⟩ => ⟨⟨s + a * b, fun _ => rfl, by rw [he]; simp [moreB, hf]⟩, hq⟩

theorem moreB_lim {s a b : Int} (h : moreB s a b = true) : Lim (s + a * b) := by
  simp only [moreB, inW, Bool.and_eq_true, decide_eq_true_eq] at h
  exact h.2

end Go.Proofs.Ytebgbplhcaocoaa
