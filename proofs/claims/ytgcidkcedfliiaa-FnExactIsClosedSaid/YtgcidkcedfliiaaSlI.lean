/- The laws' helpers on lists of numbers: copies, equality. -/
import Derived.Test.YtgcidkcedfliiaaBase
import Derived.WalkKit
import Derived.WalkSpells
import Derived.WalkLawsBesides
import Derived.ProofKit
import Derived.SizedLaws
import Derived.Lib.Hide
import Derived.Deep.QuietTactic
import Derived.BigQuiet
set_option linter.unusedSimpArgs false
set_option linter.unusedVariables false
namespace Go.Proofs.Ytgcidkcedfliiaa
open Go.RowKit

def setTo (xs : List Int) (k n : Nat) : List Value := (xs.take k ++ List.replicate (n - k) 0).map (Value.int .i64)

theorem setTo_zero (xs : List Int) (n : Nat) : (madeCells #[Value.int .i64 0] n).toList = setTo xs 0 n := by
  simp [setTo, toList_madeCells_one]

theorem setTo_all (xs : List Int) (n : Nat) (h : xs.length = n) : setTo xs n n = xs.map (Value.int .i64) := by
  simp [setTo, ← h]

theorem setTo_step (xs : List Int) (k n : Nat) (h : xs.length = n) (hk : k < n) : (setTo xs k n).set k (.int .i64 (xs.getD k 0)) = setTo xs (k+1) n := by
  apply List.ext_getElem?
  intro j
  simp only [setTo, List.getElem?_set, List.getElem?_map, List.getElem?_append, List.length_map, List.length_append, List.length_take, List.length_replicate, List.getElem?_take, List.getElem?_replicate, List.getD]
  have h1 : min k xs.length = k := by omega
  have h2 : min (k+1) xs.length = k+1 := by omega
  rw [h1, h2]
  by_cases e : k = j
  · subst e
    rw [if_pos rfl, if_pos (by omega), if_pos (by omega), if_pos (by omega), List.getElem?_eq_getElem (by omega)]
    simp
  · rw [if_neg e]
    by_cases e2 : j < k
    · simp [e2, show j < k + 1 by omega]
    · by_cases e3 : j < n
      · rw [if_neg e2, if_pos (by omega), if_neg (by omega), if_pos (by omega)]
      · rw [if_neg e2, if_neg (by omega), if_neg (by omega), if_neg (by omega)]

theorem setTo_get (xs : List Int) (k n : Nat) (h : xs.length = n) (hk : k < n) : (setTo xs k n)[k]? = some (.int .i64 0) := by
  simp only [setTo, List.getElem?_map, List.getElem?_append, List.length_take, List.getElem?_replicate]
  have h1 : min k xs.length = k := by omega
  rw [h1, if_neg (by omega), if_pos (by omega)]
  rfl

theorem toI_ne (n b off cap : Nat) (xs : List Int) (w : World) (hn : n ≤ 17592186044416) (hx : xs.length = n) (hb : b < w.heap.size)
    (hc : ∀ j, j < n → w.cell? ⟨b, off + j, none⟩ = some (.int .i64 (xs.getD j 0))) :
    Calls Try.prog 20 #[.slice (some ⟨b, off, none⟩) n cap] w fun e w' => ∃ v, e = .returned v ∧ w'.ownsRow w.heap.size 2 1 v n (xs.map (Value.int .i64)) ∧ Below w.heap.size w w' := by
  obtain ⟨i0, hi, hz0, hz1, hz2⟩ := info_parts Try.info2
  have HX := Lib.hid hx
  have HC := Lib.hid hc
  clear hx hc
  go_enter Try.func20, Try.ntmps20
  go_wp2_with (at_make; refine wpList_make_full _ rfl _ _ 25 rfl w.heap.size 2 i0 (.int .i64 0) 1 Try.underlying25 hi hz0 hz1 _ _ _ _ n rfl rfl rfl rfl ?c1 ?c2 ?c3 ?_)
  case c1 => rw [hz2]; omega
  case c2 => unfold maxLen; omega
  case c3 => exact Nat.le_refl _
  intro w1 hown hgr
  rw [setTo_zero xs n] at hown
  have hbl : Below w.heap.size w w1 := (Below.refl _ _).grown hgr (Nat.le_refl _) (by simp)
  clear hgr
  go_wp2
  go_loopw [4] (fun i wr => ∃ k : Nat, k ≤ n ∧ i = .int .i64 k ∧ wr.ownsRow w.heap.size 2 1 (.slice (some ⟨w.heap.size, 0, none⟩) n n) n (setTo xs k n) ∧ Below w.heap.size w wr) (fun i _ => n - (intOf i).toNat)
  case atStart => exact ⟨0, Nat.zero_le _, rfl, hown, hbl⟩
  case round =>
    clear hown hbl
    obtain ⟨k, hk, rfl, hown, hbl⟩ := hrel
    by_cases hlt : k < n
    · obtain ⟨x, hx⟩ : ∃ x, x = xs.getD k 0 := ⟨_, rfl⟩
      have h1 := (hbl.cell (p := ⟨b, off + k, none⟩) hb).trans (HC.out k hlt)
      have h2 := (hown.cellAt k (by omega)).trans (setTo_get xs k n HX.out hlt)
      have h3 := hown.frozenAt k
      have hst := hown.stored k (.int .i64 x)
      rw [← hx] at h1
      have Hx := Lib.hid hx
      clear hx
      go_wp2
      go_roundw
      case rel => exact ⟨k+1, by omega, by go_num, by rw [← setTo_step xs k n HX.out hlt, ← Hx.out]; exact hst.1, hbl.setCell (Nat.le_refl _) _⟩
      case measure => simp [intOf]; omega
    · go_wp2
      go_ret
      obtain rfl : k = n := by omega
      rw [setTo_all xs k HX.out] at hown
      exact ⟨_, rfl, hown, hbl⟩

theorem toI_nil (a : Option Addr) (cap : Nat) (w : World) :
    Calls Try.prog 20 #[.slice a 0 cap] w fun e w' => ∃ v, e = .returned v ∧ w'.ownsRow w.heap.size 2 1 v 0 [] ∧ Below w.heap.size w w' := by
  obtain ⟨i0, hi, hz0, hz1, hz2⟩ := info_parts Try.info2
  go_enter Try.func20, Try.ntmps20
  go_wp2_with (at_make; refine wpList_make_full _ rfl _ _ 25 rfl w.heap.size 2 i0 (.int .i64 0) 1 Try.underlying25 hi hz0 hz1 _ _ _ _ 0 rfl rfl rfl rfl ?c1 ?c2 ?c3 ?_)
  case c1 => omega
  case c2 => unfold maxLen; omega
  case c3 => exact Nat.le_refl _
  intro w1 hown hgr
  have hbl : Below w.heap.size w w1 := (Below.refl _ _).grown hgr (Nat.le_refl _) (by simp)
  clear hgr
  have e0 : (madeCells #[Value.int .i64 0] 0).toList = [] := by rw [toList_madeCells_one]; rfl
  rw [e0] at hown
  go_wp2
  refine wp_loop_rounds 1 ?_
  rw [rounds_succ]
  go_wp2
  go_ret
  exact ⟨_, rfl, hown, hbl⟩

theorem toI {lo hi : Nat} (v : Value) (xs : List Int) (w : World) (h : RdI lo hi w v xs) :
    Calls Try.prog 20 #[v] w fun e w' => ∃ a c, e = .returned (.slice a xs.length c) ∧ OwI w.heap.size w'.heap.size w' (.slice a xs.length c) xs ∧ Below w.heap.size w w' := by
  obtain ⟨h1, h2, h⟩ := h
  have fin : ∀ (e : Ending) (w' : World) v', e = .returned v' → OwI w.heap.size w'.heap.size w' v' xs → Below w.heap.size w w' → ∃ a c, e = .returned (.slice a xs.length c) ∧ OwI w.heap.size w'.heap.size w' (.slice a xs.length c) xs ∧ Below w.heap.size w w' := by
    intro e w' v' he ho hb
    obtain ⟨a, c, hv⟩ := ho.rd.shape
    subst hv
    exact ⟨a, c, he, ho, hb⟩
  rcases h with ⟨a, cap, rfl, rfl⟩ | ⟨b, off, cap, rfl, h0, hlo, hhi, hc⟩
  · exact (toI_nil a cap w).mono fun e w' ⟨v', he, ho, hb⟩ => fin e w' v' he (.mk ho h1 h2) hb
  · exact (toI_ne xs.length b off cap xs w h1 rfl (World.block_lt_of_cell? w _ (hc 0 h0)) hc).mono fun e w' ⟨v', he, ho, hb⟩ => fin e w' v' he (.mk ho h1 h2) hb

/-- eqInt64S: both read as lists -/
def eqB (xs ys : List Int) : Bool := decide (xs = ys)

theorem eqB_take {xs ys : List Int} {k : Nat} (hl : xs.length = ys.length) (h : xs.take k = ys.take k) (hk : xs.length ≤ k) : eqB xs ys = true := by
  simp only [eqB, decide_eq_true_eq]
  rw [List.take_of_length_le hk, List.take_of_length_le (by omega)] at h
  exact h
theorem eqB_ne {xs ys : List Int} {k : Nat} (h : xs.getD k 0 ≠ ys.getD k 0) : eqB xs ys = false := by
  simp only [eqB, decide_eq_false_iff_not]
  intro e; subst e; exact h rfl
theorem take_step {xs ys : List Int} {k : Nat} (hl : xs.length = ys.length) (hk : k < xs.length) (h : xs.take k = ys.take k) (e : xs.getD k 0 = ys.getD k 0) : xs.take (k+1) = ys.take (k+1) := by
  rw [List.take_add_one, List.take_add_one, h]
  simp [List.getD, List.getElem?_eq_getElem hk, List.getElem?_eq_getElem (hl ▸ hk)] at e
  simp [List.getElem?_eq_getElem hk, List.getElem?_eq_getElem (hl ▸ hk), e]

theorem eq_ne (n : Nat) (b off cap b' off' cap' : Nat) (xs ys : List Int) (w : World) (hn : n ≤ 140737488355328) (hx : xs.length = n) (hy : ys.length = n)
    (hc : ∀ j, j < n → w.cell? ⟨b, off + j, none⟩ = some (.int .i64 (xs.getD j 0)))
    (hc' : ∀ j, j < n → w.cell? ⟨b', off' + j, none⟩ = some (.int .i64 (ys.getD j 0))) :
    Calls Try.prog 23 #[.slice (some ⟨b, off, none⟩) n cap, .slice (some ⟨b', off', none⟩) n cap'] w fun e w' => e = .returned (.bool (eqB xs ys)) ∧ Qt w w' := by
  have HX := Lib.hid hx
  have HY := Lib.hid hy
  have HC := Lib.hid hc
  have HC' := Lib.hid hc'
  clear hx hy hc hc'
  go_enter Try.func23, Try.ntmps23
  go_wp2
  go_loopw [5] (fun i wr => ∃ k m : Nat, k ≤ n ∧ i = .int .i64 k ∧ wr = w.drewN m ∧ xs.take k = ys.take k) (fun i _ => n - (intOf i).toNat)
  case atStart => exact ⟨0, 0, Nat.zero_le _, rfl, rfl, rfl⟩
  case round =>
    obtain ⟨k, m, hk, rfl, rfl, ht⟩ := hrel
    have HT := Lib.hid ht
    clear ht
    by_cases hlt : k < n
    · obtain ⟨x, hx⟩ : ∃ x, x = xs.getD k 0 := ⟨_, rfl⟩
      obtain ⟨y, hy⟩ : ∃ y, y = ys.getD k 0 := ⟨_, rfl⟩
      have h1 := HC.out k hlt
      have h2 := HC'.out k hlt
      rw [← hx] at h1
      rw [← hy] at h2
      have Hx := Lib.hid hx
      have Hy := Lib.hid hy
      clear hx hy
      go_wp2
      go_quiet (fail)
      go_wp2
      · go_ret
        have h : (x != y) = true := by assumption
        exact ⟨by rw [eqB_ne (k := k) (by rw [← Hx.out, ← Hy.out]; simpa using h)]; rfl, ((Qt.refl _).drewN _).drewN _⟩
      · have h : (x != y) = false := by assumption
        go_roundw
        case rel => exact ⟨k+1, _, by omega, by go_num, rfl, take_step (HX.out.trans HY.out.symm) (by rw [HX.out]; exact hlt) HT.out (by rw [← Hx.out, ← Hy.out]; simpa using h)⟩
        case measure => simp [intOf]; omega
    · go_wp2
      go_ret
      exact ⟨by rw [eqB_take (HX.out.trans HY.out.symm) HT.out (by rw [HX.out]; omega)]; rfl, (Qt.refl _).drewN _⟩


theorem eq_any (a a' : Option Addr) (n n' cap cap' : Nat) (h : n ≠ n') (w : World) (hn : n ≤ 17592186044416) (hn' : n' ≤ 17592186044416) :
    Calls Try.prog 23 #[.slice a n cap, .slice a' n' cap'] w fun e w' => e = .returned (.bool false) ∧ Qt w w' := by
  have h' : ((n : Int) != n') = true := by simp; omega
  go_enter Try.func23, Try.ntmps23
  go_wp2
  go_ret
  exact ⟨rfl, Qt.refl _⟩

theorem eq_nil (a a' : Option Addr) (cap cap' : Nat) (w : World) :
    Calls Try.prog 23 #[.slice a 0 cap, .slice a' 0 cap'] w fun e w' => e = .returned (.bool true) ∧ Qt w w' := by
  go_enter Try.func23, Try.ntmps23
  go_wp2
  refine wp_loop_rounds 1 ?_
  rw [rounds_succ]
  go_wp2
  go_ret
  exact ⟨rfl, Qt.refl _⟩

theorem eqI {lo hi lo' hi' : Nat} (v v' : Value) (xs ys : List Int) (w : World) (h : RdI lo hi w v xs) (h' : RdI lo' hi' w v' ys) :
    Calls Try.prog 23 #[v, v'] w fun e w' => e = .returned (.bool (eqB xs ys)) ∧ Qt w w' := by
  by_cases hl : xs.length = ys.length
  · by_cases h0 : xs.length = 0
    · obtain ⟨a, cap, rfl⟩ := h.shape
      obtain ⟨a', cap', rfl⟩ := h'.shape
      rw [← hl, h0]
      refine (eq_nil a a' cap cap' w).mono fun e w' ⟨he, hw⟩ => ⟨?_, hw⟩
      have e1 := List.length_eq_zero_iff.1 h0
      have e2 := List.length_eq_zero_iff.1 (hl ▸ h0)
      rw [he, e1, e2]; rfl
    · obtain ⟨h1, _, ⟨a, cap, rfl, h⟩ | ⟨b, off, cap, rfl, _, _, _, hc⟩⟩ := h
      · simp at h0
      · obtain ⟨h1', _, ⟨a', cap', rfl, h'⟩ | ⟨b', off', cap', rfl, _, _, _, hc'⟩⟩ := h'
        · simp at hl; simp [hl] at h0
        · rw [← hl]
          exact eq_ne xs.length b off cap b' off' cap' xs ys w (by omega) rfl hl.symm hc (fun j hj => hc' j (by omega))
  · obtain ⟨a, cap, rfl⟩ := h.shape
    obtain ⟨a', cap', rfl⟩ := h'.shape
    refine (eq_any a a' _ _ cap cap' hl w h.1 h'.1).mono fun e w' ⟨he, hw⟩ => ⟨?_, hw⟩
    have : eqB xs ys = false := by simp only [eqB, decide_eq_false_iff_not]; intro e; exact hl (by rw [e])
    rw [he, this]

theorem eqB_self (xs : List Int) : eqB xs xs = true := by simp [eqB]

theorem eqI1 {lo hi lo' hi' : Nat} (v v' : Value) (xs : List Int) (w : World) (h : RdI lo hi w v xs) (h' : RdI lo' hi' w v' xs) :
    Calls Try.prog 23 #[v, v'] w fun e w' => e = .returned (.bool true) ∧ Qt w w' :=
  (eqI v v' xs xs w h h').mono fun e w' ⟨he, hq⟩ => ⟨by rw [he, eqB_self], hq⟩

end Go.Proofs.Ytgcidkcedfliiaa
