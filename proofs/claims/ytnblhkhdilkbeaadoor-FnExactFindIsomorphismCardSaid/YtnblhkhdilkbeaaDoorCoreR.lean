/- Merged: SwP, SwI, SwJ, SwS (the plain kit of these proofs). -/
import Derived.Test.YtnblhkhdilkbeaaDoorSimP
import Derived.Test.YtnblhkhdilkbeaaDoorSimI
set_option linter.unusedSimpArgs false
set_option linter.unusedVariables false
/- Sets that switch: plain facts. -/
namespace Go.Proofs.YtnblhkhdilkbeaaDoor
open Go.RowKit

def bfS (xs : List Int) : Nat → Int
  | 0 => -1
  | k + 1 => xs.getD k 0
def stOk (s : Int) (xs : List Int) (k : Nat) : Bool := decide (bfS xs k < xs.getD k 0) && inR (xs.getD k 0) s
/-- an ascending list of vertices -/
def setB (s : Int) (xs : List Int) : Bool := (List.range xs.length).all (stOk s xs)
theorem setB_no {s : Int} {xs : List Int} {k : Nat} (h : k < xs.length) (e : stOk s xs k = false) : setB s xs = false := by
  cases hb : setB s xs with
  | false => rfl
  | true =>
    have := List.all_eq_true.1 hb k (List.mem_range.2 h)
    rw [e] at this; cases this
theorem setB_yes {s : Int} {xs : List Int} (h : ∀ k, k < xs.length → stOk s xs k = true) : setB s xs = true := List.all_eq_true.2 fun k hk => h k (List.mem_range.1 hk)
theorem setB_at {s : Int} {xs : List Int} (h : setB s xs = true) {k : Nat} (hk : k < xs.length) : stOk s xs k = true := List.all_eq_true.1 h k (List.mem_range.2 hk)
theorem stOk_iff {s : Int} {xs : List Int} {k : Nat} : stOk s xs k = true ↔ bfS xs k < xs.getD k 0 ∧ 0 ≤ xs.getD k 0 ∧ xs.getD k 0 < s := by
  unfold stOk inR
  simp only [Bool.and_eq_true, decide_eq_true_eq]
theorem setB_nat {S : Nat} {xs : List Int} (h : setB (S : Int) xs = true) : ∀ k, k < xs.length → ∃ m : Nat, xs.getD k 0 = (m : Int) ∧ m < S ∧ k ≤ m := by
  intro k
  induction k with
  | zero =>
    intro hk
    have := stOk_iff.1 (setB_at h hk)
    exact ⟨(xs.getD 0 0).toNat, by omega, by omega, Nat.zero_le _⟩
  | succ k ih =>
    intro hk
    obtain ⟨m, h1, h2, h3⟩ := ih (by omega)
    have := stOk_iff.1 (setB_at h hk)
    have hb : bfS xs (k + 1) = xs.getD k 0 := rfl
    rw [hb, h1] at this
    exact ⟨(xs.getD (k + 1) 0).toNat, by omega, by omega, by omega⟩
theorem setB_len {S : Nat} {xs : List Int} (h : setB (S : Int) xs = true) : xs.length ≤ S := by
  by_cases e : xs.length = 0
  · omega
  · obtain ⟨m, _, h2, h3⟩ := setB_nat h (xs.length - 1) (by omega)
    omega

def memB (xs : List Int) (v : Nat) : Bool := (List.range xs.length).any (fun j => xs.getD j 0 == (v : Int))
theorem memB_yes {xs : List Int} {v k : Nat} (h : k < xs.length) (e : xs.getD k 0 = (v : Int)) : memB xs v = true := List.any_eq_true.2 ⟨k, List.mem_range.2 h, by simpa using e⟩
theorem memB_no {xs : List Int} {v : Nat} (h : ∀ k, k < xs.length → xs.getD k 0 ≠ (v : Int)) : memB xs v = false := by
  cases hb : memB xs v with
  | false => rfl
  | true =>
    obtain ⟨k, hk, e⟩ := List.any_eq_true.1 hb
    exact absurd (by simpa using e) (h k (List.mem_range.1 hk))
theorem memB_at {xs : List Int} {v : Nat} (h : memB xs v = true) : 0 < xs.length := by
  obtain ⟨k, hk, e⟩ := List.any_eq_true.1 h
  have := List.mem_range.1 hk
  omega
theorem memB_ne {xs : List Int} {v k : Nat} (h : memB xs v = false) (hk : k < xs.length) : xs.getD k 0 ≠ (v : Int) := fun e => by
  have := memB_yes hk e; rw [h] at this; cases this

/-- how many of the first k numbers of a set are not 0 in a row -/
def nbR (r : Nat → Int) (xs : List Int) : Nat → Nat
  | 0 => 0
  | k + 1 => if r (xs.getD k 0).toNat = 0 then nbR r xs k else nbR r xs k + 1
theorem nbR_le (r : Nat → Int) (xs : List Int) : ∀ k, nbR r xs k ≤ k
  | 0 => Nat.le_refl _
  | k + 1 => by
    have := nbR_le r xs k
    unfold nbR
    split <;> omega
def swV (f : Nat → Nat → Int) (xs : List Int) (v : Nat) : Bool :=
  if memB xs v = true then decide (nbR (f v) xs xs.length = nbR (f (xs.getD 0 0).toNat) xs xs.length)
  else decide (nbR (f v) xs xs.length = 0 ∨ nbR (f v) xs xs.length = xs.length ∨ 2 * nbR (f v) xs xs.length = xs.length)
/-- the set switches the graph with some rows -/
def swB (f : Nat → Nat → Int) (S : Nat) (xs : List Int) : Bool := (List.range S).all (swV f xs)
theorem swB_no {f : Nat → Nat → Int} {S : Nat} {xs : List Int} {v : Nat} (h : v < S) (e : swV f xs v = false) : swB f S xs = false := by
  cases hb : swB f S xs with
  | false => rfl
  | true =>
    have := List.all_eq_true.1 hb v (List.mem_range.2 h)
    rw [e] at this; cases this
theorem swB_yes {f : Nat → Nat → Int} {S : Nat} {xs : List Int} (h : ∀ v, v < S → swV f xs v = true) : swB f S xs = true := List.all_eq_true.2 fun k hk => h k (List.mem_range.1 hk)

def swCode (s : Int) (xss : List (List Int)) (xs : List Int) : Int := if grB s xss = true then (if setB s xs = true then (if simB (adF xss) s.toNat = true then 0 else 5) else 2) else 1
def dsOf (s : Int) (xss : List (List Int)) (xs : List Int) : Bool × Int := if swCode s xss xs = 0 then (swB (adF xss) s.toNat xs, 0) else (false, swCode s xss xs)

/-- the rows, turned at the row v for the first k of the set -/
def swE (f : Nat → Nat → Int) (xs : List Int) (v : Nat) : Nat → Nat → Nat → Int
  | 0 => f
  | k + 1 => put (put (swE f xs v k) v (xs.getD k 0).toNat (1 - swE f xs v k v (xs.getD k 0).toNat)) (xs.getD k 0).toNat v (1 - swE f xs v k v (xs.getD k 0).toNat)
def swSkip (g : Nat → Nat → Int) (xs : List Int) (v : Nat) : Bool := memB xs v || !decide (2 * nbR (g v) xs xs.length = xs.length)
def swG (f : Nat → Nat → Int) (xs : List Int) : Nat → Nat → Nat → Int
  | 0 => f
  | v + 1 => if swSkip (swG f xs v) xs v = true then swG f xs v else swE (swG f xs v) xs v xs.length
def bitF (S : Nat) (f : Nat → Nat → Int) : Prop := ∀ i, i < S → ∀ j, j < S → f i j = 0 ∨ f i j = 1
theorem put_bit {S : Nat} {f : Nat → Nat → Int} (h : bitF S f) (i j : Nat) {x : Int} (hx : x = 0 ∨ x = 1) : bitF S (put f i j x) := fun a ha b hb => by
  unfold put
  split
  · exact hx
  · exact h a ha b hb
theorem swE_bit {S : Nat} {f : Nat → Nat → Int} {xs : List Int} {v : Nat} (h : bitF S f) (hv : v < S) (hn : ∀ k, k < xs.length → (xs.getD k 0).toNat < S) : ∀ k, k ≤ xs.length → bitF S (swE f xs v k)
  | 0, _ => h
  | k + 1, hk => by
    have ih := swE_bit h hv hn k (by omega)
    have h1 := ih v hv _ (hn k (by omega))
    have hx : 1 - swE f xs v k v (xs.getD k 0).toNat = 0 ∨ 1 - swE f xs v k v (xs.getD k 0).toNat = 1 := by omega
    exact put_bit (put_bit ih _ _ hx) _ _ hx
theorem swG_bit {S : Nat} {f : Nat → Nat → Int} {xs : List Int} (h : bitF S f) (hn : ∀ k, k < xs.length → (xs.getD k 0).toNat < S) : ∀ v, v ≤ S → bitF S (swG f xs v)
  | 0, _ => h
  | v + 1, hv => by
    have ih := swG_bit h hn v (by omega)
    unfold swG
    split
    · exact ih
    · exact swE_bit ih (by omega) hn _ (Nat.le_refl _)

end Go.Proofs.YtnblhkhdilkbeaaDoor

/- Sets that switch, by the program. -/
set_option maxRecDepth 100000
namespace Go.Proofs.YtnblhkhdilkbeaaDoor
open Go.RowKit

set_option maxHeartbeats 1600000 in
theorem slIndexM {lo hi : Nat} (a : Option Addr) (n c : Nat) (xs : List Int) (v : Nat) (w : World) (h : RdI lo hi w (.slice a n c) xs) (hl : xs.length = n) :
    Calls Tryd.prog 111 #[.slice a n c, .int .i64 v] w fun e w' => (∃ r : Int, e = .returned (.int .i64 r) ∧ (decide (0 ≤ r)) = memB xs v) ∧ Qt w w' := by
  have HC := Lib.hid (fun W (hq : Qt w W) => (h.qt hq).at hl)
  have hn17 := h.1
  rw [hl] at hn17
  have HYES := Lib.hid (fun k (hk : k < n) (e : xs.getD k 0 = (v : Int)) => memB_yes (by rw [hl]; exact hk) e)
  have HNO := Lib.hid (fun (h : ∀ k, k < n → xs.getD k 0 ≠ (v : Int)) => memB_no (xs := xs) (v := v) (fun k hk => h k (by rw [← hl]; exact hk)))
  generalize memB xs v = R at HNO HYES ⊢
  clear h hl
  go_enter Tryd.func111, Tryd.ntmps111
  go_wp2
  go_loopw [8] (fun i wr => ∃ k : Nat, k ≤ n ∧ i = .int .i64 k ∧ Qt w wr ∧ Hid (∀ j, j < k → xs.getD j 0 ≠ (v : Int))) (fun i _ => n - (intOf i).toNat)
  case atStart => exact ⟨0, Nat.zero_le _, rfl, Qt.refl _, Lib.hid (fun j hj => by omega)⟩
  case round =>
    obtain ⟨k, hk, rfl, hq, HA⟩ := hrel
    by_cases hlt : k < n
    · obtain ⟨b, off, rfl, g1⟩ := HC.out wr hq k hlt
      have hkn : (k : Int) < (n : Int) := by omega
      obtain ⟨x, hx⟩ : ∃ x, x = xs.getD k 0 := ⟨_, rfl⟩
      rw [← hx] at g1
      have HXX := Lib.hid hx
      clear hx
      by_cases he : (v : Int) = x
      · have HF := Lib.hid (HYES.out k hlt (by rw [← HXX.out]; exact he.symm))
        subst he
        clear HA
        go_wp2
        go_ret
        exact ⟨⟨(k : Int), rfl, by rw [HF.out]; exact decide_eq_true (by omega)⟩, hq⟩
      · have hb : ((v : Int) == x) = false := by simpa using he
        have HN := Lib.hid (fun j (hj : j < k + 1) => show xs.getD j 0 ≠ (v : Int) by
          by_cases e : j = k
          · subst e; rw [← HXX.out]; exact fun e2 => he e2.symm
          · exact HA.out j (by omega))
        clear he HA
        go_wp2
        go_roundw
        case rel => exact ⟨k+1, by omega, by go_num, hq, HN⟩
        case measure => simp [intOf]; omega
    · obtain rfl : k = n := by omega
      have HF := Lib.hid (HNO.out HA.out)
      clear HA
      go_wp2
      go_ret
      exact ⟨⟨-1, rfl, by rw [HF.out]; rfl⟩, hq⟩

set_option maxHeartbeats 800000 in
theorem slContains {lo hi : Nat} (a : Option Addr) (n c : Nat) (xs : List Int) (v : Nat) (w : World) (h : RdI lo hi w (.slice a n c) xs) (hl : xs.length = n) :
    Calls Tryd.prog 100 #[.slice a n c, .int .i64 v] w fun e w' => e = .returned (.bool (memB xs v)) ∧ Qt w w' := by
  have HI := Lib.hid (slIndexM a n c xs v w h hl)
  generalize memB xs v = R at HI ⊢
  clear h hl
  go_enter Tryd.func100, Tryd.ntmps100
  go_wp2_with fail
  refine HI.out.mono ?_
  rintro e w5 ⟨⟨r, rfl, hr⟩, q5⟩
  subst hr
  go_wp2
  go_ret
  exact ⟨rfl, q5⟩

end Go.Proofs.YtnblhkhdilkbeaaDoor

/- Sets that switch, by the program: DoesSwitch. -/
set_option maxRecDepth 100000
namespace Go.Proofs.YtnblhkhdilkbeaaDoor
open Go.RowKit

theorem rowRd {lo hi : Nat} {w : World} {a : Option Addr} {S c : Nat} {f : Nat → Nat → Int} (h : RdR lo hi w (.slice a S c) (tab S f)) {k : Nat} (hk : k < S) : ∃ b off b' off' c', a = some ⟨b, off, none⟩ ∧ w.cell? ⟨b, off + k, none⟩ = some (.slice (some ⟨b', off', none⟩) S c') ∧ RdI lo hi w (.slice (some ⟨b', off', none⟩) S c') ((List.range S).map (f k)) := by
  obtain ⟨b, off, rv, e1, e2, e3⟩ := h.at (tab_len _ _) k hk
  obtain ⟨a', c', rfl⟩ := e3.shape
  rw [tab_rlen f hk] at e2 e3
  obtain ⟨b', off', rfl, e4⟩ := e3.at (tab_rlen f hk) k hk
  rw [tab_row f hk] at e3
  exact ⟨b, off, b', off', c', e1, e2, e3⟩
theorem swV_mem {f : Nat → Nat → Int} {xs : List Int} {v : Nat} (h : memB xs v = true) : swV f xs v = decide (nbR (f v) xs xs.length = nbR (f (xs.getD 0 0).toNat) xs xs.length) := by unfold swV; rw [if_pos h]
theorem swV_out {f : Nat → Nat → Int} {xs : List Int} {v : Nat} (h : memB xs v = false) : swV f xs v = decide (nbR (f v) xs xs.length = 0 ∨ nbR (f v) xs xs.length = xs.length ∨ 2 * nbR (f v) xs xs.length = xs.length) := by unfold swV; rw [if_neg (by rw [h]; simp)]

theorem swCode_no {s : Int} {xss : List (List Int)} {xs : List Int} (h : grB s xss = false) : swCode s xss xs = 1 := by unfold swCode; rw [h]; rfl
theorem swCode_rng {s : Int} {xss : List (List Int)} {xs : List Int} (h : grB s xss = true) (h2 : setB s xs = false) : swCode s xss xs = 2 := by unfold swCode; rw [if_pos h, h2]; rfl
theorem swCode_st {S : Nat} {xss : List (List Int)} {xs : List Int} (h : grB (S : Int) xss = true) (h2 : setB (S : Int) xs = true) (h3 : simB (adF xss) S = false) : swCode (S : Int) xss xs = 5 := by unfold swCode; rw [if_pos h, if_pos h2, Int.toNat_natCast, h3]; rfl
theorem swCode_ok {S : Nat} {xss : List (List Int)} {xs : List Int} (h : grB (S : Int) xss = true) (h2 : setB (S : Int) xs = true) (h3 : simB (adF xss) S = true) : swCode (S : Int) xss xs = 0 := by unfold swCode; rw [if_pos h, if_pos h2, Int.toNat_natCast, h3]; rfl
theorem swCode_cases (s : Int) (xss : List (List Int)) (xs : List Int) : (swCode s xss xs ≠ 0) ∨ (∃ S : Nat, s = (S : Int) ∧ S ≤ 8 ∧ grB (S : Int) xss = true ∧ setB (S : Int) xs = true ∧ simB (adF xss) S = true ∧ swCode s xss xs = 0) := by
  cases hg : grB s xss with
  | false => left; rw [swCode_no hg]; decide
  | true =>
    have hg4 := grB_iff hg
    obtain ⟨S, hS⟩ : ∃ S : Nat, s = (S : Int) := ⟨s.toNat, by omega⟩
    subst hS
    cases h2 : setB (S : Int) xs with
    | false => left; rw [swCode_rng hg h2]; decide
    | true =>
      cases h3 : simB (adF xss) S with
      | false => left; rw [swCode_st hg h2 h3]; decide
      | true => right; exact ⟨S, rfl, by omega, hg, h2, h3, swCode_ok hg h2 h3⟩

end Go.Proofs.YtnblhkhdilkbeaaDoor

/- Sets that switch, by the model. -/
set_option maxRecDepth 100000
namespace Go.Proofs.YtnblhkhdilkbeaaDoor
open Go.RowKit

end Go.Proofs.YtnblhkhdilkbeaaDoor
