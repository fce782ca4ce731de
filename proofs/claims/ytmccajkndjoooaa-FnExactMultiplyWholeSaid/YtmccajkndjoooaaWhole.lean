/- IsWhole of the program and of the model: both say whether the list is a polynomial. -/
import Derived.Test.YtmccajkndjoooaaSlI
import Derived.WalkKit
import Derived.WalkSpells
import Derived.WalkLawsBesides
import Derived.ProofKit
import Derived.SizedLaws
import Derived.Lib.Hide
import Derived.Deep.QuietTactic
import Derived.BigQuiet
set_option linter.unusedSimpArgs false
set_option linter.unusedVariables false
namespace Go.Proofs.Ytmccajkndjoooaa
open Go.RowKit

def inW (x : Int) : Bool := decide (-1000000000000000 ≤ x) && decide (x ≤ 1000000000000000)
def lastOk (xs : List Int) : Bool := decide (xs = []) || (xs.getD (xs.length - 1) 0 != 0)
def wholeB (xs : List Int) : Bool := decide (xs.length ≤ 40) && (xs.all inW && lastOk xs)

theorem isWithin (x l : Int) (hl : 0 ≤ l) (hl' : l ≤ 1000000000000000) (w : World) :
    Calls Try.prog 23 #[.int .i64 x, .int .i64 l] w fun e w' => e = .returned (.bool (decide (-l ≤ x) && decide (x ≤ l))) ∧ Qt w w' := by
  by_cases h1 : -l ≤ x
  · go_enter Try.func23, Try.ntmps23
    go_wp2
    go_ret
    exact ⟨by first | (simp [*]; done) | (simp [*]; intros; omega), Qt.refl _⟩
  · go_enter Try.func23, Try.ntmps23
    go_wp2
    go_ret
    exact ⟨by first | (simp [*]; done) | (simp [*]; intros; omega), Qt.refl _⟩

theorem l01In (n l h : Int) (w : World) :
    Calls Try.prog 24 #[.int .i64 n, .int .i64 l, .int .i64 h] w fun e w' => e = .returned (.bool (decide (l ≤ n) && decide (n ≤ h))) ∧ Qt w w' := by
  by_cases h1 : l ≤ n
  · go_enter Try.func24, Try.ntmps24
    go_wp2
    go_ret
    exact ⟨by first | (simp [*]; done) | (simp [*]; intros; omega), Qt.refl _⟩
  · go_enter Try.func24, Try.ntmps24
    go_wp2
    go_ret
    exact ⟨by first | (simp [*]; done) | (simp [*]; intros; omega), Qt.refl _⟩

theorem inW_take {xs : List Int} {k : Nat} (hk : k < xs.length) (h : (xs.take k).all inW = true) (e : inW (xs.getD k 0) = true) : (xs.take (k+1)).all inW = true := by
  rw [List.take_add_one, List.all_append, h, List.getElem?_eq_getElem hk]
  simp [List.getD, List.getElem?_eq_getElem hk] at e
  simp [e]
theorem inW_not {xs : List Int} {k : Nat} (hk : k < xs.length) (e : inW (xs.getD k 0) = false) : xs.all inW = false := by
  simp [List.getD, List.getElem?_eq_getElem hk] at e
  rw [List.all_eq_false]
  exact ⟨_, List.getElem_mem hk, by simp [e]⟩

theorem iw_ne (n b off cap : Nat) (xs : List Int) (w : World) (hn : n ≤ 17592186044416) (hx : xs.length = n) (h0 : 0 < n)
    (hc : ∀ j, j < n → w.cell? ⟨b, off + j, none⟩ = some (.int .i64 (xs.getD j 0))) :
    Calls Try.prog 10 #[.slice (some ⟨b, off, none⟩) n cap] w fun e w' => e = .returned (.bool (wholeB xs)) ∧ Qt w w' := by
  have HX := Lib.hid hx
  have HC := Lib.hid hc
  clear hx hc
  by_cases h40 : n ≤ 40
  · go_enter Try.func10, Try.ntmps10
    go_wp2
    go_loopw [10, 4] (fun i _ wr => ∃ k : Nat, k ≤ n ∧ i = .int .i64 k ∧ Qt w wr ∧ (xs.take k).all inW = true) (fun i _ _ => n - (intOf i).toNat)
    case atStart => exact ⟨0, Nat.zero_le _, rfl, Qt.refl _, rfl⟩
    case round =>
      obtain ⟨k, hk, rfl, ⟨m, rfl⟩, ht⟩ := hrel
      have HT := Lib.hid ht
      clear ht
      by_cases hlt : k < n
      · obtain ⟨x, hx⟩ : ∃ x, x = xs.getD k 0 := ⟨_, rfl⟩
        have h1 := HC.out k hlt
        rw [← hx] at h1
        have Hx := Lib.hid hx
        clear hx
        by_cases hi : inW x = true
        · have hi' := hi
          simp only [inW] at hi'
          go_wp2_with (go_at_call 23; refine (isWithin _ _ (by omega) (by omega) _).mono ?_; rintro e w' ⟨rfl, ⟨m', rfl⟩⟩; rw [hi'])
          go_roundw
          case rel => exact ⟨k+1, by omega, by go_num, (Qt.refl _).drewN _ , inW_take (by rw [HX.out]; exact hlt) HT.out (by rw [← Hx.out]; exact hi)⟩
          case measure => simp [intOf]; omega
        · have hi' : (decide (-1000000000000000 ≤ x) && decide (x ≤ 1000000000000000)) = false := by simpa [inW] using hi
          have hf := inW_not (k := k) (by rw [HX.out]; exact hlt) (by rw [← Hx.out]; simpa using hi)
          have HF := Lib.hid hf
          clear hf hi
          go_wp2_with (go_at_call 23; refine (isWithin _ _ (by omega) (by omega) _).mono ?_; rintro e w' ⟨rfl, ⟨m', rfl⟩⟩; rw [hi'])
          go_ret
          exact ⟨by simp [wholeB, HF.out], (Qt.refl _).drewN _⟩
      · obtain ⟨y, hy⟩ : ∃ y, y = xs.getD (n-1) 0 := ⟨_, rfl⟩
        have h1 := HC.out (n-1) (by omega)
        rw [← hy] at h1
        have Hy := Lib.hid hy
        clear hy
        have hz : ((n : Int) == 0) = false := by simp; omega
        go_wp2
        go_ret
        obtain rfl : k = n := by omega
        have h2 : xs.all inW = true := by have := HT.out; rwa [List.take_of_length_le (by rw [HX.out]; exact Nat.le_refl _)] at this
        have h3 : xs ≠ [] := by intro e; have := HX.out; rw [e] at this; simp at this; omega
        have h5 := HX.out
        have h6 := Hy.out
        refine ⟨?_, (Qt.refl _).drewN _⟩
        simp [wholeB, h2, h3, h5, h40, lastOk]
        rw [h6]
        simp
  · go_enter Try.func10, Try.ntmps10
    go_wp2
    go_ret
    have : ¬ (xs.length ≤ 40) := by rw [HX.out]; exact h40
    exact ⟨by simp [wholeB, this], Qt.refl _⟩

theorem iw_nil (a : Option Addr) (cap : Nat) (w : World) :
    Calls Try.prog 10 #[.slice a 0 cap] w fun e w' => e = .returned (.bool (wholeB [])) ∧ Qt w w' := by
  go_enter Try.func10, Try.ntmps10
  go_wp2
  refine wp_loop_rounds 1 ?_
  rw [rounds_succ]
  go_wp2
  go_ret
  exact ⟨rfl, (Qt.refl _)⟩

theorem implIsWhole {lo hi : Nat} (v : Value) (xs : List Int) (w : World) (h : RdI lo hi w v xs) :
    Calls Try.prog 10 #[v] w fun e w' => e = .returned (.bool (wholeB xs)) ∧ Qt w w' := by
  obtain ⟨h1, h2, h⟩ := h
  rcases h with ⟨a, cap, rfl, rfl⟩ | ⟨b, off, cap, rfl, h0, _, _, hc⟩
  · exact iw_nil a cap w
  · exact iw_ne xs.length b off cap xs w h1 rfl h0 hc

theorem poly_ne (n b off cap : Nat) (xs : List Int) (w : World) (hn : n ≤ 17592186044416) (hx : xs.length = n) (h0 : 0 < n)
    (hc : ∀ j, j < n → w.cell? ⟨b, off + j, none⟩ = some (.int .i64 (xs.getD j 0))) :
    Calls Try.prog 22 #[.slice (some ⟨b, off, none⟩) n cap] w fun e w' => e = .returned (.bool (wholeB xs)) ∧ Qt w w' := by
  have HX := Lib.hid hx
  have HC := Lib.hid hc
  clear hx hc
  go_enter Try.func22, Try.ntmps22
  go_wp2
  go_loopw [3] (fun i wr => ∃ k : Nat, k ≤ n ∧ i = .int .i64 k ∧ Qt w wr ∧ (xs.take k).all inW = true) (fun i _ => n - (intOf i).toNat)
  case atStart => exact ⟨0, Nat.zero_le _, rfl, Qt.refl _, rfl⟩
  case round =>
    obtain ⟨k, hk, rfl, ⟨m, rfl⟩, ht⟩ := hrel
    have HT := Lib.hid ht
    clear ht
    by_cases hlt : k < n
    · obtain ⟨x, hx⟩ : ∃ x, x = xs.getD k 0 := ⟨_, rfl⟩
      have h1 := HC.out k hlt
      rw [← hx] at h1
      have Hx := Lib.hid hx
      clear hx
      by_cases hi : inW x = true
      · have hi' := hi
        simp only [inW] at hi'
        go_wp2_with (go_at_call 24; refine (l01In _ _ _ _).mono ?_; rintro e w' ⟨rfl, ⟨m', rfl⟩⟩; rw [hi'])
        go_roundw
        case rel => exact ⟨k+1, by omega, by go_num, (Qt.refl _).drewN _ , inW_take (by rw [HX.out]; exact hlt) HT.out (by rw [← Hx.out]; exact hi)⟩
        case measure => simp [intOf]; omega
      · have hi' : (decide (-1000000000000000 ≤ x) && decide (x ≤ 1000000000000000)) = false := by simpa [inW] using hi
        have hf := inW_not (k := k) (by rw [HX.out]; exact hlt) (by rw [← Hx.out]; simpa using hi)
        have HF := Lib.hid hf
        clear hf hi
        go_wp2_with (go_at_call 24; refine (l01In _ _ _ _).mono ?_; rintro e w' ⟨rfl, ⟨m', rfl⟩⟩; rw [hi'])
        go_ret
        exact ⟨by simp [wholeB, HF.out], (Qt.refl _).drewN _⟩
    · obtain ⟨y, hy⟩ : ∃ y, y = xs.getD (n-1) 0 := ⟨_, rfl⟩
      have h1 := HC.out (n-1) (by omega)
      rw [← hy] at h1
      have Hy := Lib.hid hy
      clear hy
      have hz : ((n : Int) == 0) = false := by simp; omega
      by_cases h40 : n ≤ 40
      all_goals
        go_wp2
        go_ret
        obtain rfl : k = n := by omega
        have h2 : xs.all inW = true := by have := HT.out; rwa [List.take_of_length_le (by rw [HX.out]; exact Nat.le_refl _)] at this
        have h3 : xs ≠ [] := by intro e; have := HX.out; rw [e] at this; simp at this; omega
        have h5 := HX.out
        have h6 := Hy.out
        refine ⟨?_, (Qt.refl _).drewN _⟩
        simp [wholeB, h2, h3, h5, h40, lastOk]
      rw [h6]
      simp

theorem poly_nil (a : Option Addr) (cap : Nat) (w : World) :
    Calls Try.prog 22 #[.slice a 0 cap] w fun e w' => e = .returned (.bool (wholeB [])) ∧ Qt w w' := by
  go_enter Try.func22, Try.ntmps22
  go_wp2
  refine wp_loop_rounds 1 ?_
  rw [rounds_succ]
  go_wp2
  go_ret
  exact ⟨rfl, (Qt.refl _)⟩

theorem l01Poly {lo hi : Nat} (v : Value) (xs : List Int) (w : World) (h : RdI lo hi w v xs) :
    Calls Try.prog 22 #[v] w fun e w' => e = .returned (.bool (wholeB xs)) ∧ Qt w w' := by
  obtain ⟨h1, h2, h⟩ := h
  rcases h with ⟨a, cap, rfl, rfl⟩ | ⟨b, off, cap, rfl, h0, _, _, hc⟩
  · exact poly_nil a cap w
  · exact poly_ne xs.length b off cap xs w h1 rfl h0 hc

theorem specIsWhole {lo hi : Nat} (v : Value) (xs : List Int) (w : World) (h : RdI lo hi w v xs) :
    Calls Try.prog 8 #[v] w fun e w' => e = .returned (.bool (wholeB xs)) ∧ Qt w w' := by
  go_enter Try.func8, Try.ntmps8
  go_wp2_with (go_at_call 22; refine (l01Poly _ _ _ h).mono ?_; rintro e w' ⟨rfl, ⟨m', rfl⟩⟩)
  go_ret
  exact ⟨rfl, (Qt.refl _).drewN _⟩



end Go.Proofs.Ytmccajkndjoooaa
