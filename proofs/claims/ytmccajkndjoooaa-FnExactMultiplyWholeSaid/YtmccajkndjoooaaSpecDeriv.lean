/- DerivativeOfWhole of the model. -/
import Derived.Test.YtmccajkndjoooaaNumbersOf
set_option linter.unusedSimpArgs false
set_option linter.unusedVariables false
namespace Go.Proofs.Ytmccajkndjoooaa
open Go.RowKit

/-- the numbers of the derivative, out of those at 1 to k -/
def derL (xs : List Int) (k : Nat) : List Int := (List.range k).map (fun i : Nat => ((i : Int) + 1) * xs.getD (i + 1) 0)
theorem derL_succ (xs : List Int) (k : Nat) : derL xs (k+1) = derL xs k ++ [((k : Int) + 1) * xs.getD (k + 1) 0] := by simp [derL, List.range_succ]
theorem derL_len (xs : List Int) (k : Nat) : (derL xs k).length = k := by simp [derL]
def derOk (xs : List Int) (k : Nat) : Prop := ∀ i, i < k → moreB 0 (i : Int) (xs.getD i 0) = true

theorem fits_lim {a b : Int} (h : fits a b = true) : Lim (a * b) := by simpa [fits, Lim] using h
theorem moreB_fits {a b : Int} (h : moreB 0 a b = true) : fits a b = true := by
  simp only [moreB, Bool.and_eq_true] at h; exact h.1
theorem lim_I64 {a : Int} (h : Lim a) : I64 a := by unfold Lim at h; unfold I64; omega

theorem OwI.lower {lo lo' hi : Nat} {w : World} {v : Value} {xs : List Int} (h : OwI lo hi w v xs) (hl : lo' ≤ lo) : OwI lo' hi w v xs :=
  ⟨h.1, h.2.1, ownsRow_mono h.2.2.1 hl, h.2.2.2⟩
theorem ownsRow_cap {w : World} {B e size n : Nat} {v : Value} {xs : List Value} (h : w.ownsRow B e size v n xs) : ∀ a m c, v = .slice a m c → m ≤ c := by
  intro a m c hv
  rcases h.2 with ⟨h2, _⟩ | ⟨g, cap, cur, h2, _, _, hn, _⟩
  · rw [hv] at h2; simp at h2; omega
  · rw [hv] at h2; simp only [Value.slice.injEq] at h2; omega
theorem derL_I64 {xs : List Int} {k : Nat} (h : derOk xs (k+1)) : ∀ x ∈ derL xs k, I64 x := by
  intro x hx
  simp only [derL, List.mem_map, List.mem_range] at hx
  obtain ⟨i, hi, rfl⟩ := hx
  have := fits_lim (moreB_fits (h (i+1) (by omega)))
  have e2 : (((i + 1 : Nat) : Int)) = (i : Int) + 1 := by omega
  rw [e2] at this
  exact lim_I64 this

set_option maxHeartbeats 800000 in
theorem l01Derive_ne (n b off cap : Nat) (xs : List Int) (w : World) (hx : xs.length = n) (hn : n ≤ 40) (h0 : 0 < n) (hok : derOk xs n)
    (hc : ∀ j, j < n → w.cell? ⟨b, off + j, none⟩ = some (.int .i64 (xs.getD j 0))) :
    Calls Try.prog 34 #[.slice (some ⟨b, off, none⟩) n cap] w fun e w' => ∃ a c, e = .returned (.slice a (trim (derL xs (n-1))).length c) ∧ OwI w.heap.size w'.heap.size w' (.slice a (trim (derL xs (n-1))).length c) (trim (derL xs (n-1))) ∧ Below w.heap.size w w' := by
  obtain ⟨i0, hi', z0, z1, z2⟩ := info_parts Try.info2
  have HX := Lib.hid hx
  have HC := Lib.hid hc
  have HOK := Lib.hid hok
  clear hx hc hok
  go_enter Try.func34, Try.ntmps34
  go_wp2
  go_loopw [3, 4] (fun v i wr => ∃ k : Nat, k + 1 ≤ n ∧ i = .int .i64 ((k : Int) + 1) ∧ wr.ownsRow w.heap.size 2 1 v k ((derL xs k).map (Value.int .i64)) ∧ Below w.heap.size w wr) (fun _ i _ => n - (intOf i).toNat)
  case atStart => exact ⟨0, by omega, rfl, World.ownsRow_lit w #[] 0 (Nat.le_refl _) (by unfold maxLen; omega) rfl, (Below.refl _ _).alloc (Nat.le_refl _) _⟩
  case round =>
    obtain ⟨k, hk, rfl, hown, hB⟩ := hrel
    by_cases hlt : k + 1 < n
    · have h1 := hB.keep (HC.out (k+1) hlt)
      have hm := fits_lim (moreB_fits (HOK.out (k+1) hlt))
      have e1 := derL_succ xs k
      have e2 : (((k + 1 : Nat) : Int)) = (k : Int) + 1 := by omega
      rw [e2] at hm
      generalize hx0 : xs.getD (k+1) 0 = x0 at *
      have hp1 := hm.1
      have hp2 := hm.2
      have E1 := Lib.hid e1
      clear hm e1 e2 hx0
      go_wp2_with (at_builtin; refine wpList_append_own _ rfl _ _ 22 rfl w.heap.size 2 i0 (.int .i64 0) 1 8 Try.underlying22 hi' z0 z1 z2 rfl (by decide) _ _ _ rfl (hown.alloc _) ⟨wr.heap.size, 0, none⟩ 1 1 [.int .i64 (((k : Int) + 1) * x0)] rfl rfl ?c1 ?c2 ?c3 ?c4 ?c5 ?_)
      case c1 => exact news_one _ _ _
      case c2 => intro u hu; simp at hu; subst hu; rfl
      case c3 => unfold maxLen; omega
      case c4 => omega
      case c5 => have := hB.size; simp; omega
      intro v3 w3 hown3 hgr _
      obtain ⟨hB3, hz3, _, _⟩ := grown_own hB hown (Nat.le_refl _) hgr
      have e3 : (derL xs k).map (Value.int .i64) ++ [Value.int .i64 (((k : Int) + 1) * x0)] = (derL xs (k+1)).map (Value.int .i64) := by rw [E1.out]; simp
      rw [e3] at hown3
      clear hgr hown e3
      go_wp2
      go_roundw
      case rel => exact ⟨k+1, by omega, by go_num, hown3, hB3⟩
      case measure => simp [intOf]; omega
    · obtain rfl : n = k + 1 := by omega
      have ho : OwI w.heap.size wr.heap.size wr _ (derL xs k) := .mk hown (by omega) (derL_I64 HOK.out)
      have hcap := ownsRow_cap hown
      clear hown
      go_wp2_with fail
      refine (l01Trim _ (derL xs k) _ hcap ho.rd).mono ?_
      rintro e w2 ⟨a2, c2, rfl, o2, b2⟩
      have hB2 := hB.next b2
      have o3 := o2.lower hB.size
      clear hcap ho o2
      go_wp2
      go_ret
      exact ⟨a2, c2, rfl, o3, hB2⟩

theorem l01Derive_nil (a : Option Addr) (cap : Nat) (w : World) :
    Calls Try.prog 34 #[.slice a 0 cap] w fun e w' => ∃ a c, e = .returned (.slice a 0 c) ∧ OwI w.heap.size w'.heap.size w' (.slice a 0 c) [] ∧ Below w.heap.size w w' := by
  have hown : (w.alloc (.cells #[] 2)).ownsRow w.heap.size 2 1 (.slice (some ⟨w.heap.size, 0, none⟩) 0 0) 0 (([] : List Int).map (Value.int .i64)) := World.ownsRow_lit w #[] 0 (Nat.le_refl _) (by unfold maxLen; omega) rfl
  have hb : Below w.heap.size w (w.alloc (.cells #[] 2)) := (Below.refl w.heap.size w).alloc (Nat.le_refl _) _
  have ho : OwI w.heap.size _ (w.alloc (.cells #[] 2)) (.slice (some ⟨w.heap.size, 0, none⟩) 0 0) [] := .mk hown (by omega) (by simp)
  go_enter Try.func34, Try.ntmps34
  go_wp2
  refine wp_loop_rounds 1 ?_
  rw [rounds_succ]
  go_wp2_with fail
  refine (l01Trim _ [] _ (fun a n c h => by simp at h; omega) ho.rd).mono ?_
  rintro e w2 ⟨a2, c2, rfl, o2, b2⟩
  have hB2 := hb.next b2
  have o3 := o2.lower hb.size
  go_wp2
  go_ret
  exact ⟨a2, c2, rfl, o3, hB2⟩

/-- the derivative, or 3 where a product is beyond the limit -/
def derivOf (xs : List Int) : List Int × Int :=
  if wholeB xs = false then ([], 1) else if (List.range xs.length).all (fun i => moreB 0 (i : Int) (xs.getD i 0)) = false then ([], 3) else (trim (derL xs (xs.length - 1)), 0)
theorem derOk_all {xs : List Int} (h : (List.range xs.length).all (fun i : Nat => moreB 0 (i : Int) (xs.getD i 0)) = true) : derOk xs xs.length := fun i hi => by
  rw [List.all_eq_true] at h
  exact h i (List.mem_range.2 hi)
theorem derOk_not {xs : List Int} {k : Nat} (hk : k < xs.length) (h : moreB 0 (k : Int) (xs.getD k 0) = false) : (List.range xs.length).all (fun i : Nat => moreB 0 (i : Int) (xs.getD i 0)) = false := by
  rw [List.all_eq_false]
  exact ⟨k, List.mem_range.2 hk, by simp only [h]; simp⟩

end Go.Proofs.Ytmccajkndjoooaa
