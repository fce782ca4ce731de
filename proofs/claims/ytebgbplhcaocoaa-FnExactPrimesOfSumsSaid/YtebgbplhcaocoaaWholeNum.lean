/- The program's bounded numbers: one that exceeds the limit is broken, and so is all that is made of it. -/
import Derived.Test.YtebgbplhcaocoaaMore
set_option linter.unusedSimpArgs false
set_option linter.unusedVariables false
namespace Go.Proofs.Ytebgbplhcaocoaa
open Go.RowKit

/-- a bounded number as a value: broken or not -/
def wv (o : Option Int) : Value := match o with | some v => .agg #[.int .i64 v, .bool false] | none => .agg #[.int .i64 0, .bool true]
def OLim (o : Option Int) : Prop := ∀ v, o = some v → Lim v
def mk? (n : Int) (b : Bool) : Option Int := if b || !inW n then none else some n
theorem mk?_lim (n : Int) (b : Bool) : OLim (mk? n b) := by
  intro v h
  unfold mk? at h
  cases hb : (b || !inW n) with
  | true => rw [hb] at h; simp at h
  | false =>
    rw [hb] at h
    have : inW n = true := by cases b <;> cases hi : inW n <;> simp_all
    simp only [inW, Bool.and_eq_true, decide_eq_true_eq] at this
    simp at h
    subst h
    exact this

theorem isWithinM (x : Int) (w : World) : Calls Try.prog 126 #[.int .i64 x, .int .i64 1000000000000000] w fun e w' => e = .returned (.bool (inW x)) ∧ Qt w w' :=
  isWithin x 1000000000000000 (by omega) (by omega) w

theorem wholeOf (n : Int) (b : Bool) (w : World) :
    Calls Try.prog 171 #[.int .i64 n, .bool b] w fun e w' => e = .returned (wv (mk? n b)) ∧ Below w.heap.size w w' := by
  have hb0 : ∀ o, Below w.heap.size w (w.alloc o) := fun o => (Below.refl _ _).alloc (Nat.le_refl _) o
  cases b with
  | true =>
    go_enter Try.func171, Try.ntmps171
    go_wp2
    refine bodyPost_ret (v := .agg #[.int .i64 0, .bool true]) (by simp [results, Try.results171, go_sem]) rfl ⟨?_, ?_⟩
    · simp [mk?, wv, *]
    · repeat (first | exact Below.refl _ _ | refine Below.setCell ?_ (by simp) _ | refine Below.drewN ?_ _ | refine Below.alloc ?_ (by simp) _)
  | false =>
    cases hi : inW n with
    | true =>
      have HI := Lib.hid hi
      clear hi
      go_enter Try.func171, Try.ntmps171
      go_wp2_with (go_at_call 126; refine (isWithinM _ _).mono ?_; rintro e w' ⟨rfl, ⟨m', rfl⟩⟩; rw [HI.out])
      have hi := HI.out
      refine bodyPost_ret (v := .agg #[.int .i64 n, .bool false]) (by simp [results, Try.results171, go_sem]) rfl ⟨?_, ?_⟩
      · simp [mk?, wv, *]
      · repeat (first | exact Below.refl _ _ | refine Below.setCell ?_ (by simp) _ | refine Below.drewN ?_ _ | refine Below.alloc ?_ (by simp) _)
    | false =>
      have HI := Lib.hid hi
      clear hi
      go_enter Try.func171, Try.ntmps171
      go_wp2_with (go_at_call 126; refine (isWithinM _ _).mono ?_; rintro e w' ⟨rfl, ⟨m', rfl⟩⟩; rw [HI.out])
      have hi := HI.out
      refine bodyPost_ret (v := .agg #[.int .i64 0, .bool true]) (by simp [results, Try.results171, go_sem]) rfl ⟨?_, ?_⟩
      · simp [mk?, wv, *]
      · repeat (first | exact Below.refl _ _ | refine Below.setCell ?_ (by simp) _ | refine Below.drewN ?_ _ | refine Below.alloc ?_ (by simp) _)

end Go.Proofs.Ytebgbplhcaocoaa
