/- The program's numbers out of bounded numbers, without zeros at the end. -/
import Derived.Test.YtebgbplhcaocoaaOwn
import Derived.Test.YtebgbplhcaocoaaWholes
set_option linter.unusedSimpArgs false
set_option linter.unusedVariables false
namespace Go.Proofs.Ytebgbplhcaocoaa
open Go.RowKit

theorem tl_eq (xs : List Int) (n : Nat) (k : Nat) (h : tl xs n = tl xs k) (h0 : k = 0 ∨ xs.getD (k - 1) 0 ≠ 0) : tl xs n = k := by
  rw [h]
  rcases h0 with rfl | h0
  · rfl
  · cases k with
    | zero => rfl
    | succ j => unfold tl; rw [if_neg (by simpa using h0)]

set_option maxHeartbeats 800000 in
theorem wz_ne (n b off cap : Nat) (xs : List Int) (w : World) (hx : xs.length = n) (hn : n ≤ 17592186044416) (hcap : n ≤ cap)
    (hc : ∀ j, j < n → w.cell? ⟨b, off + j, none⟩ = some (.int .i64 (xs.getD j 0))) :
    Calls Try.prog 134 #[.slice (some ⟨b, off, none⟩) n cap] w fun e w' => e = .returned (.slice (some ⟨b, off, none⟩) (tl xs n) cap) ∧ Qt w w' := by
  have HX := Lib.hid hx
  have HC := Lib.hid hc
  clear hx hc
  go_enter Try.func134, Try.ntmps134
  go_wp2
  go_loopw [0] (fun v wr => ∃ k : Nat, k ≤ n ∧ v = .slice (some ⟨b, off, none⟩) k cap ∧ tl xs n = tl xs k ∧ Qt w wr) (fun v _ => match v with | .slice _ k _ => k | _ => 0)
  case atStart => exact ⟨n, Nat.le_refl _, rfl, rfl, Qt.refl _⟩
  case round =>
    obtain ⟨k, hk, rfl, ht, hq⟩ := hrel
    have HT := Lib.hid ht
    clear ht
    by_cases h0 : k = 0
    · subst h0
      go_wp2
      go_ret
      exact ⟨by rw [tl_eq xs n 0 HT.out (.inl rfl)]; rfl, hq⟩
    · obtain ⟨j, rfl⟩ : ∃ j, k = j + 1 := ⟨k - 1, by omega⟩
      have h1 := hq.cell (HC.out j (by omega))
      generalize hx0 : xs.getD j 0 = x0 at *
      have H0 := Lib.hid hx0
      clear hx0
      cases hz : (x0 == 0) with
      | true =>
        go_wp2
        go_roundw
        case rel => exact ⟨j, by omega, rfl, by rw [HT.out]; conv => lhs; unfold tl
                                                rw [if_pos (by rw [H0.out]; simpa using hz)], hq⟩
        case measure => simp
      | false =>
        go_wp2
        go_ret
        exact ⟨by rw [tl_eq xs n (j+1) HT.out (.inr (by simp only [Nat.add_sub_cancel]; rw [H0.out]; simpa using hz))]; rfl, hq⟩

theorem wz_nil (a : Option Addr) (cap : Nat) (w : World) :
    Calls Try.prog 134 #[.slice a 0 cap] w fun e w' => e = .returned (.slice a 0 cap) ∧ Qt w w' := by
  go_enter Try.func134, Try.ntmps134
  go_wp2
  refine wp_loop_rounds 1 ?_
  rw [rounds_succ]
  go_wp2
  go_ret
  exact ⟨rfl, Qt.refl _⟩

end Go.Proofs.Ytebgbplhcaocoaa
