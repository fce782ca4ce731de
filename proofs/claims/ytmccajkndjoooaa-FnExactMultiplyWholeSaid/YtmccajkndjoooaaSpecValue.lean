/- ValueOfWhole of the model. -/
import Derived.Test.YtmccajkndjoooaaMore
set_option linter.unusedSimpArgs false
set_option linter.unusedVariables false
namespace Go.Proofs.Ytmccajkndjoooaa
open Go.RowKit

def valStep (x c : Int) (o : Option Int) : Option Int := o.bind (fun v => if moreB c v x then some (c + v * x) else none)
def valW (f : List Int) (x : Int) : Option Int := f.foldr (valStep x) (some 0)
theorem valW_drop (f : List Int) (x : Int) (k : Nat) (hk : k < f.length) : valW (f.drop k) x = valStep x (f.getD k 0) (valW (f.drop (k+1)) x) := by
  have e : f.getD k 0 = f[k] := by simp [List.getD, List.getElem?_eq_getElem hk]
  rw [e]
  unfold valW
  rw [List.drop_eq_getElem_cons hk, List.foldr_cons]
theorem valW_none {f : List Int} {x : Int} (k : Nat) (h : valW (f.drop k) x = none) : valW f x = none := by
  have e : f = f.take k ++ f.drop k := (List.take_append_drop k f).symm
  have hn : ∀ l : List Int, l.foldr (valStep x) none = none := fun l => by
    induction l with
    | nil => rfl
    | cons c r ih => simp [ih, valStep]
  unfold valW at h ⊢
  rw [e, List.foldr_append, h, hn]
def valueOf (f : List Int) (x : Int) : Int × Int :=
  if wholeB f = false then (0, 1) else if (decide (-1000 ≤ x) && decide (x ≤ 1000)) = false then (0, 2) else match valW f x with | some v => (v, 0) | none => (0, 3)

theorem wholeB_lim {f : List Int} (h : wholeB f = true) : f.length ≤ 40 ∧ ∀ j, j < f.length → Lim (f.getD j 0) := by
  simp only [wholeB, Bool.and_eq_true, decide_eq_true_eq, List.all_eq_true] at h
  refine ⟨h.1, fun j hj => ?_⟩
  have := h.2.1 _ (List.getElem_mem hj)
  simp only [inW, Bool.and_eq_true, decide_eq_true_eq] at this
  simpa [List.getD, List.getElem?_eq_getElem hj, Lim] using this

set_option maxHeartbeats 800000 in
theorem specValue_loop (n b off cap : Nat) (xs : List Int) (x : Int) (w : World) (hx : xs.length = n) (hx1 : -1000 ≤ x) (hx2 : x ≤ 1000) {lo hi : Nat} (hr : RdI lo hi w (.slice (some ⟨b, off, none⟩) n cap) xs) (hw : wholeB xs = true)
    (hc : ∀ j, j < n → w.cell? ⟨b, off + j, none⟩ = some (.int .i64 (xs.getD j 0))) :
    Calls Try.prog 18 #[.slice (some ⟨b, off, none⟩) n cap, .int .i64 x] w fun e w' => e = .returned (.tuple #[.int .i64 (valueOf xs x).1, .int .i64 (valueOf xs x).2]) ∧ Qt w w' := by
  have hn := (wholeB_lim hw).1
  have HX := Lib.hid hx
  have HC := Lib.hid hc
  have HW := Lib.hid hw
  have hg : (decide (-1000 ≤ x) && decide (x ≤ 1000)) = true := by simp; omega
  have HG := Lib.hid hg
  rw [hx] at hn
  clear hx hc hw
  go_enter Try.func18, Try.ntmps18
  go_wp2_with fail
  refine (l01Poly _ _ _ hr).mono ?_
  rw [HW.out]
  rintro e w1 ⟨rfl, q1⟩
  go_wp2_with fail
  refine (l01In _ _ _ _).mono ?_
  rw [HG.out]
  rintro e w2 ⟨rfl, q2⟩
  have hq := q1.trans q2
  clear q1 q2 hg hr
  go_wp2
  go_loopw [6, 7, 8, 9] (fun o i _ _ wr => ∃ (k : Nat) (v : Int), k ≤ n ∧ i = .int .i64 ((k : Int) - 1) ∧ o = .int .i64 v ∧ Lim v ∧ valW (xs.drop k) x = some v ∧ Qt w wr) (fun _ i _ _ _ => (intOf i + 1).toNat)
  case atStart => exact ⟨n, 0, Nat.le_refl _, rfl, rfl, by unfold Lim; omega, by rw [List.drop_of_length_le (by rw [HX.out]; exact Nat.le_refl _)]; rfl, hq⟩
  case round =>
    clear hq
    obtain ⟨k, v, hk, rfl, rfl, hv, hval, hq⟩ := hrel
    have HV := Lib.hid hval
    clear hval
    by_cases hlt : 0 < k
    · obtain ⟨j, rfl⟩ : ∃ j, k = j + 1 := ⟨k - 1, by omega⟩
      have h1 := hq.cell (HC.out j (by omega))
      have hl := (wholeB_lim HW.out).2 j (by rw [HX.out]; omega)
      have hst := valW_drop xs x j (by rw [HX.out]; omega)
      rw [HV.out] at hst
      generalize hc0 : xs.getD j 0 = c0 at *
      have HST := Lib.hid hst
      have hxl : Lim x := by unfold Lim; omega
      clear hst hc0
      cases hm : moreB c0 v x with
      | true =>
        go_wp2_with fail
        refine (l01More _ _ _ hl hv hxl _).mono ?_
        rintro e w3 ⟨⟨o3, ho3, rfl⟩, q3⟩
        have e3 := ho3 hm
        subst e3
        rw [hm]
        have hq3 := hq.trans q3
        clear ho3
        go_wp2
        go_roundw
        case rel => exact ⟨j, _, by omega, by congr 1 <;> omega, rfl, moreB_lim hm, by rw [HST.out]; simp [valStep, hm], hq3⟩
        case measure => simp [intOf] <;> omega
      | false =>
        go_wp2_with fail
        refine (l01More _ _ _ hl hv hxl _).mono ?_
        rintro e w3 ⟨⟨o3, ho3, rfl⟩, q3⟩
        rw [hm]
        have hq3 := hq.trans q3
        clear ho3
        go_wp2
        go_ret2
        have e4 : valW xs x = none := valW_none j (by rw [HST.out]; simp [valStep, hm])
        exact ⟨by simp only [valueOf, HW.out, HG.out, e4]; rfl, hq3⟩
    · obtain rfl : k = 0 := by omega
      go_wp2
      go_ret2
      have e4 : valW xs x = some v := by simpa using HV.out
      exact ⟨by simp only [valueOf, HW.out, HG.out, e4]; rfl, hq⟩

theorem specValue_bad (v : Value) (xs : List Int) (x : Int) (w : World) {lo hi : Nat} (hr : RdI lo hi w v xs) (hw : wholeB xs = false) :
    Calls Try.prog 18 #[v, .int .i64 x] w fun e w' => e = .returned (.tuple #[.int .i64 0, .int .i64 1]) ∧ Qt w w' := by
  have HW := Lib.hid hw
  clear hw
  go_enter Try.func18, Try.ntmps18
  go_wp2_with fail
  refine (l01Poly _ _ _ hr).mono ?_
  rw [HW.out]
  rintro e w1 ⟨rfl, q1⟩
  go_wp2
  go_ret2
  exact ⟨rfl, q1⟩

theorem specValue_far (v : Value) (xs : List Int) (x : Int) (w : World) {lo hi : Nat} (hr : RdI lo hi w v xs) (hw : wholeB xs = true) (hg : (decide (-1000 ≤ x) && decide (x ≤ 1000)) = false) :
    Calls Try.prog 18 #[v, .int .i64 x] w fun e w' => e = .returned (.tuple #[.int .i64 0, .int .i64 2]) ∧ Qt w w' := by
  have HW := Lib.hid hw
  have HG := Lib.hid hg
  clear hw hg
  go_enter Try.func18, Try.ntmps18
  go_wp2_with fail
  refine (l01Poly _ _ _ hr).mono ?_
  rw [HW.out]
  rintro e w1 ⟨rfl, q1⟩
  go_wp2_with fail
  refine (l01In _ _ _ _).mono ?_
  rw [HG.out]
  rintro e w2 ⟨rfl, q2⟩
  have hq := q1.trans q2
  go_wp2
  go_ret2
  exact ⟨rfl, hq⟩

theorem specValue_nil (a : Option Addr) (cap : Nat) (x : Int) (w : World) (hg : (decide (-1000 ≤ x) && decide (x ≤ 1000)) = true) {lo hi : Nat} (hr : RdI lo hi w (.slice a 0 cap) []) :
    Calls Try.prog 18 #[.slice a 0 cap, .int .i64 x] w fun e w' => e = .returned (.tuple #[.int .i64 0, .int .i64 0]) ∧ Qt w w' := by
  have hw0 : wholeB [] = true := rfl
  have HW := Lib.hid hw0
  clear hw0
  have HG := Lib.hid hg
  clear hg
  go_enter Try.func18, Try.ntmps18
  go_wp2_with fail
  refine (l01Poly _ _ _ hr).mono ?_
  rw [HW.out]
  rintro e w1 ⟨rfl, q1⟩
  go_wp2_with fail
  refine (l01In _ _ _ _).mono ?_
  rw [HG.out]
  rintro e w2 ⟨rfl, q2⟩
  have hq := q1.trans q2
  go_wp2
  refine wp_loop_rounds 1 ?_
  rw [rounds_succ]
  go_wp2
  go_ret2
  exact ⟨rfl, hq⟩

theorem specValue {lo hi : Nat} (v : Value) (xs : List Int) (x : Int) (w : World) (hr : RdI lo hi w v xs) :
    Calls Try.prog 18 #[v, .int .i64 x] w fun e w' => e = .returned (.tuple #[.int .i64 (valueOf xs x).1, .int .i64 (valueOf xs x).2]) ∧ Qt w w' := by
  cases hw : wholeB xs with
  | false =>
    have e : valueOf xs x = (0, 1) := by simp [valueOf, hw]
    rw [e]
    exact specValue_bad v xs x w hr hw
  | true =>
    cases hg : (decide (-1000 ≤ x) && decide (x ≤ 1000)) with
    | false =>
      have e : valueOf xs x = (0, 2) := by simp only [valueOf, hw, hg]; rfl
      rw [e]
      exact specValue_far v xs x w hr hw hg
    | true =>
      have hr' := hr
      obtain ⟨h1, h2, ⟨a, cap, rfl, rfl⟩ | ⟨b, off, cap, rfl, h0, hlo, hhi, hc⟩⟩ := hr
      · have e : valueOf [] x = (0, 0) := by simp only [valueOf, hw, hg]; rfl
        rw [e]
        exact specValue_nil a cap x w hg hr'
      · have : -1000 ≤ x ∧ x ≤ 1000 := by simpa using hg
        exact specValue_loop _ b off cap xs x w rfl this.1 this.2 hr' hw hc

end Go.Proofs.Ytmccajkndjoooaa
