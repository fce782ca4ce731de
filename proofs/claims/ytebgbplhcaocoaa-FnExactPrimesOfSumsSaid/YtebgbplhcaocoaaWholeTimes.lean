/- The program's bounded numbers: products. -/
import Derived.Test.YtebgbplhcaocoaaWholePlus
set_option linter.unusedSimpArgs false
set_option linter.unusedVariables false
namespace Go.Proofs.Ytebgbplhcaocoaa
open Go.RowKit

def timesO (o p : Option Int) : Option Int := if fits (numO o) (numO p) then mk? (numO o * numO p) (o.isNone || p.isNone) else none

def ab (n : Int) : Int := n.natAbs
theorem ab_bd {n : Int} (h1 : -1000000000000000 ≤ n) (h2 : n ≤ 1000000000000000) : 0 ≤ ab n ∧ ab n ≤ 1000000000000000 := by unfold ab; omega
theorem absolute (n : Int) (h1 : -1000000000000000 ≤ n) (h2 : n ≤ 1000000000000000) (w : World) :
    Calls Try.prog 170 #[.int .i64 n] w fun e w' => e = .returned (.int .i64 (ab n)) ∧ Qt w w' := by
  have e1 : (if n < -n then -n else n) = ab n := absI n
  go_enter Try.func170, Try.ntmps170
  go_wp2
  go_ret
  exact ⟨rfl, Qt.refl _⟩

theorem wtimes_bad (a b : Int) (c d : Bool) (h11 : -1000000000000000 ≤ a) (h12 : a ≤ 1000000000000000) (h21 : -1000000000000000 ≤ b) (h22 : b ≤ 1000000000000000) (hf : fits a b = false) (w : World) :
    Calls Try.prog 129 #[.agg #[.int .i64 a, .bool c], .agg #[.int .i64 b, .bool d]] w fun e w' => e = .returned (wv none) ∧ Below w.heap.size w w' := by
  have hb0 : ∀ o, Below w.heap.size w (w.alloc o) := fun o => (Below.refl _ _).alloc (Nat.le_refl _) o
  have hz : ¬ a = 0 := by intro e; subst e; simp [fits] at hf
  have hz' : (a != 0) = true := by simpa using hz
  have hA : 0 < ab a := by unfold ab; omega
  have hA1 := (ab_bd h11 h12).2
  have hB1 := ab_bd h21 h22
  have hB2 := hB1.1
  have hB3 := hB1.2
  rw [fits_div hz] at hf
  have hd : decide ((1000000000000000 / ab a) < ab b) = true := by unfold ab; simpa using hf
  have hq0 : 0 ≤ 1000000000000000 / ab a := Int.ediv_nonneg (by omega) (by omega)
  have hq1 : 1000000000000000 / ab a ≤ 1000000000000000 := Int.ediv_le_self _ (by omega)
  have hw : IntKind.i64.wrap (Int.tdiv 1000000000000000 (ab a)) = 1000000000000000 / ab a := by
    rw [Int.tdiv_eq_ediv_of_nonneg (by omega)]
    exact IntWalk.i64_in _ (by omega)
  clear hf hB1
  have hz2 : ¬ ab a = 0 := by omega
  have hz3 : (ab a == 0) = false := by simpa using hz2
  go_enter Try.func129, Try.ntmps129
  go_wp2
  go_quiet ((go_at_call 170; refine Calls.quiet_of (absolute _ ?_ ?_ _) <;> assumption))
  go_wp2
  refine bodyPost_ret (v := .agg #[.int .i64 0, .bool true]) (by simp [results, Try.results129, go_sem]) rfl ⟨rfl, ?_⟩
  repeat (first | exact Below.refl _ _ | refine Below.setCell ?_ (by simp <;> omega) _ | refine Below.drewN ?_ _ | refine Below.alloc ?_ (by simp <;> omega) _)


theorem wtimes_ok (a b : Int) (c d : Bool) (h11 : -1000000000000000 ≤ a) (h12 : a ≤ 1000000000000000) (h21 : -1000000000000000 ≤ b) (h22 : b ≤ 1000000000000000) (hf : fits a b = true) (w : World) :
    Calls Try.prog 129 #[.agg #[.int .i64 a, .bool c], .agg #[.int .i64 b, .bool d]] w fun e w' => e = .returned (wv (mk? (a * b) (c || d))) ∧ Below w.heap.size w w' := by
  have hb0 : ∀ o, Below w.heap.size w (w.alloc o) := fun o => (Below.refl _ _).alloc (Nat.le_refl _) o
  have hp : -1000000000000000 ≤ a * b ∧ a * b ≤ 1000000000000000 := by simpa [fits] using hf
  obtain ⟨hp1, hp2⟩ := hp
  by_cases hz : a = 0
  · have hz' : (a != 0) = false := by simp [hz]
    clear hf
    have HZ := Lib.hid hz
    clear hz
    cases c <;> cases d
    all_goals
      go_enter Try.func129, Try.ntmps129
      go_wp2
      go_quiet (fail)
      go_wp2_with fail
      refine calls_gen (fun W => Below w.heap.size w W ∧ W.heap.size = w.heap.size + 1 + 1 + 1 ∧ W.cell? ⟨w.heap.size + 1 + 1, 0, none⟩ = some (.int .i64 0) ∧ W.cell? ⟨w.heap.size + 1 + 1, 1, none⟩ = some (.bool false) ∧ W.frozen? ⟨w.heap.size + 1 + 1, 0, none⟩ = false ∧ W.frozen? ⟨w.heap.size + 1 + 1, 1, none⟩ = false) ⟨?_, ?_, ?_, ?_, ?_, ?_⟩ ?_
      · exact (((hb0 _).alloc (by simp) _).alloc (by simp; omega) _).drewN _
      · simp
      · go_simp
      · go_simp
      · go_simp
      · go_simp
      rintro W ⟨hB, hsz, c1, c2, f1, f2⟩
      have hsz2 : w.heap.size + 1 + 1 < W.heap.size := by omega
      clear hsz
      refine (wholeOf _ _ _).mono ?_
      rintro e w1 ⟨rfl, b1⟩
      rw [wv_agg]
      replace c1 := b1.keep c1
      replace c2 := b1.keep c2
      replace f1 := b1.keepf hsz2 f1
      replace f2 := b1.keepf hsz2 f2
      have hB1 := hB.next b1
      clear hB b1
      go_wp2
      refine bodyPost_ret (v := .agg #[.int .i64 (numO (mk? (a * b) _)), .bool (mk? (a * b) _).isNone]) (by simp [results, Try.results129, go_sem, c1, c2]; exact ⟨rfl, rfl⟩) rfl ⟨?_, ?_⟩
      · rw [wv_agg]; rfl
      · repeat (refine Below.setCell ?_ (by simp <;> omega) _)
        exact hB1
  · have hz' : (a != 0) = true := by simpa using hz
    have hA : 0 < ab a := by unfold ab; omega
    have hA1 := (ab_bd h11 h12).2
    have hB1 := ab_bd h21 h22
    have hB2 := hB1.1
    have hB3 := hB1.2
    rw [fits_div hz] at hf
    have hd : decide ((1000000000000000 / ab a) < ab b) = false := by unfold ab; simpa using hf
    have hq0 : 0 ≤ 1000000000000000 / ab a := Int.ediv_nonneg (by omega) (by omega)
    have hq1 : 1000000000000000 / ab a ≤ 1000000000000000 := Int.ediv_le_self _ (by omega)
    have hw : IntKind.i64.wrap (Int.tdiv 1000000000000000 (ab a)) = 1000000000000000 / ab a := by
      rw [Int.tdiv_eq_ediv_of_nonneg (by omega)]
      exact IntWalk.i64_in _ (by omega)
    clear hf hB1
    have hz2 : ¬ ab a = 0 := by omega
    have hz3 : (ab a == 0) = false := by simpa using hz2
    cases c <;> cases d
    all_goals
      go_enter Try.func129, Try.ntmps129
      go_wp2
      go_quiet ((go_at_call 170; refine Calls.quiet_of (absolute _ ?_ ?_ _) <;> assumption))
      go_wp2_with fail
      refine calls_gen (fun W => Below w.heap.size w W ∧ W.heap.size = w.heap.size + 1 + 1 + 1 ∧ W.cell? ⟨w.heap.size + 1 + 1, 0, none⟩ = some (.int .i64 0) ∧ W.cell? ⟨w.heap.size + 1 + 1, 1, none⟩ = some (.bool false) ∧ W.frozen? ⟨w.heap.size + 1 + 1, 0, none⟩ = false ∧ W.frozen? ⟨w.heap.size + 1 + 1, 1, none⟩ = false) ⟨?_, ?_, ?_, ?_, ?_, ?_⟩ ?_
      · exact (((hb0 _).alloc (by simp) _).alloc (by simp; omega) _).drewN _
      · simp
      · go_simp
      · go_simp
      · go_simp
      · go_simp
      rintro W ⟨hB, hsz, c1, c2, f1, f2⟩
      have hsz2 : w.heap.size + 1 + 1 < W.heap.size := by omega
      clear hsz
      refine (wholeOf _ _ _).mono ?_
      rintro e w1 ⟨rfl, b1⟩
      rw [wv_agg]
      replace c1 := b1.keep c1
      replace c2 := b1.keep c2
      replace f1 := b1.keepf hsz2 f1
      replace f2 := b1.keepf hsz2 f2
      have hB1 := hB.next b1
      clear hB b1
      go_wp2
      refine bodyPost_ret (v := .agg #[.int .i64 (numO (mk? (a * b) _)), .bool (mk? (a * b) _).isNone]) (by simp [results, Try.results129, go_sem, c1, c2]; exact ⟨rfl, rfl⟩) rfl ⟨?_, ?_⟩
      · rw [wv_agg]; rfl
      · repeat (refine Below.setCell ?_ (by simp <;> omega) _)
        exact hB1
theorem wtimes (o p : Option Int) (ho : OLim o) (hp : OLim p) (w : World) :
    Calls Try.prog 129 #[wv o, wv p] w fun e w' => e = .returned (wv (timesO o p)) ∧ Below w.heap.size w w' := by
  have h1 := ho.num
  have h2 := hp.num
  cases hf : fits (numO o) (numO p) with
  | false =>
    have e0 : timesO o p = none := by unfold timesO; rw [hf]; rfl
    rw [wv_agg o, wv_agg p, e0]
    exact wtimes_bad _ _ _ _ h1.1 h1.2 h2.1 h2.2 hf w
  | true =>
    have e0 : timesO o p = mk? (numO o * numO p) (o.isNone || p.isNone) := by unfold timesO; rw [hf]; rfl
    rw [wv_agg o, wv_agg p, e0]
    exact wtimes_ok _ _ _ _ h1.1 h1.2 h2.1 h2.2 hf w

end Go.Proofs.Ytebgbplhcaocoaa
