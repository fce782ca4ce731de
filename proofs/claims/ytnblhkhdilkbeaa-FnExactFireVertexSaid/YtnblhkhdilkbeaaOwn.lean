/- The model's lists without zeros at the end. -/
import Derived.Test.YtnblhkhdilkbeaaCoreB
set_option linter.unusedSimpArgs false
set_option linter.unusedVariables false
namespace Go.Proofs.Ytnblhkhdilkbeaa
open Go.RowKit

/-- how many are left without the zeros at the end -/
def tl (xs : List Int) : Nat → Nat
  | 0 => 0
  | k + 1 => if xs.getD k 0 = 0 then tl xs k else k + 1
theorem tl_le (xs : List Int) (k : Nat) : tl xs k ≤ k := by
  induction k with
  | zero => exact Nat.le_refl _
  | succ k ih => unfold tl; split <;> omega
def trim (xs : List Int) : List Int := xs.take (tl xs xs.length)

theorem RdI.take {lo hi : Nat} {w : World} {b off cap : Nat} {xs : List Int} {n k : Nat} (h : RdI lo hi w (.slice (some ⟨b, off, none⟩) n cap) xs) (hn : xs.length = n) (hk : k ≤ n) : RdI lo hi w (.slice (some ⟨b, off, none⟩) k cap) (xs.take k) := by
  obtain ⟨h1, h2, h⟩ := h
  have hl : (xs.take k).length = k := by rw [List.length_take]; omega
  refine ⟨by omega, fun x hx => h2 x (List.mem_of_mem_take hx), ?_⟩
  by_cases h0 : k = 0
  · subst h0
    exact .inl ⟨_, _, by simp, rfl⟩
  · rcases h with ⟨a, c, rfl, _⟩ | ⟨b', off', cap', hv, h0', hlo, hhi, hc⟩
    · simp at hn; omega
    · simp only [Value.slice.injEq, Option.some.injEq, Addr.mk.injEq] at hv
      obtain ⟨⟨rfl, rfl, _⟩, _, rfl⟩ := hv
      refine .inr ⟨b, off, cap, by rw [hl], by omega, hlo, hhi, fun j hj => ?_⟩
      rw [hc j (by omega)]
      simp [List.getD, List.getElem?_take, show j < k by omega]

set_option maxHeartbeats 800000 in
theorem trim_ne {lo hi : Nat} (n b off cap : Nat) (xs : List Int) (w : World) (hx : xs.length = n) (hcap : n ≤ cap) (h : RdI lo hi w (.slice (some ⟨b, off, none⟩) n cap) xs)
    (hc : ∀ j, j < n → w.cell? ⟨b, off + j, none⟩ = some (.int .i64 (xs.getD j 0))) :
    Calls Try.prog 147 #[.slice (some ⟨b, off, none⟩) n cap] w fun e w' => ∃ a c, e = .returned (.slice a (trim xs).length c) ∧ OwI w.heap.size w'.heap.size w' (.slice a (trim xs).length c) (trim xs) ∧ Below w.heap.size w w' := by
  have hn17 := h.1
  rw [hx] at hn17
  have HX := Lib.hid hx
  have HC := Lib.hid hc
  have HR := Lib.hid h
  clear hx hc h
  go_enter Try.func147, Try.ntmps147
  go_wp2
  go_loopw [3] (fun i wr => ∃ k : Nat, k ≤ n ∧ i = .int .i64 k ∧ tl xs n = tl xs k ∧ Qt w wr) (fun i _ => (intOf i).toNat)
  case atStart => exact ⟨n, Nat.le_refl _, rfl, rfl, Qt.refl _⟩
  case round =>
    obtain ⟨k, hk, rfl, ht, hq⟩ := hrel
    have HT := Lib.hid ht
    clear ht
    have fin : ∀ k, k ≤ n → tl xs n = k → trim xs = xs.take k := fun k _ e => by unfold trim; rw [HX.out, e]
    have FIN := Lib.hid fin
    clear fin
    by_cases h0 : k = 0
    · subst h0
      have e0 : tl xs 0 = 0 := rfl
      have e1 := FIN.out 0 hk (by rw [HT.out, e0])
      have E1 := Lib.hid e1
      clear e0 e1
      go_wp2_with fail
      refine (l01Own _ (xs.take 0) _ ((HR.out.take HX.out hk).qt hq)).mono ?_
      rintro e w1 ⟨a1, c1, rfl, o1, b1⟩
      have hB := hq.below.next b1
      have ho : OwI w.heap.size w1.heap.size w1 (.slice a1 (xs.take 0).length c1) (xs.take 0) := by have := hq.below.size; obtain ⟨p1, p2, p3, p4⟩ := o1; exact ⟨p1, p2, ownsRow_mono p3 this, p4⟩
      go_wp2
      go_ret
      rw [E1.out]
      exact ⟨a1, c1, rfl, ho, hB⟩
    · obtain ⟨j, rfl⟩ : ∃ j, k = j + 1 := ⟨k - 1, by omega⟩
      have h1 := hq.cell (HC.out j (by omega))
      generalize hx0 : xs.getD j 0 = x0 at *
      have H0 := Lib.hid hx0
      clear hx0
      cases hz : (x0 == 0) with
      | true =>
        go_wp2
        go_roundw
        case rel => exact ⟨j, by omega, by congr 1 <;> omega, by rw [HT.out]; conv => lhs; unfold tl
                                                                 rw [if_pos (by rw [H0.out]; simpa using hz)], hq⟩
        case measure => simp [intOf] <;> omega
      | false =>
        have e0 : tl xs (j+1) = j + 1 := by
          conv => lhs; unfold tl
          rw [if_neg (by rw [H0.out]; simpa using hz)]
        have e1 := FIN.out (j+1) hk (by rw [HT.out, e0])
        have E1 := Lib.hid e1
        clear e0 e1
        have hl : (xs.take (j+1)).length = j + 1 := by rw [List.length_take]; have := HX.out; omega
        have HL := Lib.hid hl
        clear hl
        go_wp2_with fail
        refine (l01Own _ (xs.take (j+1)) _ ((HR.out.take HX.out hk).qt hq)).mono ?_
        rintro e w1 ⟨a1, c1, rfl, o1, b1⟩
        have hB := hq.below.next b1
        have ho : OwI w.heap.size w1.heap.size w1 (.slice a1 (xs.take (j+1)).length c1) (xs.take (j+1)) := by have := hq.below.size; obtain ⟨p1, p2, p3, p4⟩ := o1; exact ⟨p1, p2, ownsRow_mono p3 this, p4⟩
        go_wp2
        go_ret
        rw [E1.out]
        exact ⟨a1, c1, by rw [List.length_take]; rfl, ho, hB⟩

theorem trim_nil {lo hi : Nat} (a : Option Addr) (cap : Nat) (w : World) (h : RdI lo hi w (.slice a 0 cap) []) :
    Calls Try.prog 147 #[.slice a 0 cap] w fun e w' => ∃ a c, e = .returned (.slice a 0 c) ∧ OwI w.heap.size w'.heap.size w' (.slice a 0 c) [] ∧ Below w.heap.size w w' := by
  go_enter Try.func147, Try.ntmps147
  go_wp2
  refine wp_loop_rounds 1 ?_
  rw [rounds_succ]
  go_wp2_with fail
  refine (l01Own _ [] _ h).mono ?_
  rintro e w1 ⟨a1, c1, rfl, o1, b1⟩
  go_wp2
  go_ret
  exact ⟨a1, c1, rfl, o1, b1⟩

theorem l01Trim {lo hi : Nat} (v : Value) (xs : List Int) (w : World) (hcap : ∀ a n c, v = .slice a n c → n ≤ c) (h : RdI lo hi w v xs) :
    Calls Try.prog 147 #[v] w fun e w' => ∃ a c, e = .returned (.slice a (trim xs).length c) ∧ OwI w.heap.size w'.heap.size w' (.slice a (trim xs).length c) (trim xs) ∧ Below w.heap.size w w' := by
  have h' := h
  obtain ⟨h1, h2, ⟨a, cap, rfl, rfl⟩ | ⟨b, off, cap, rfl, h0, hlo, hhi, hc⟩⟩ := h
  · exact trim_nil a cap w h'
  · exact trim_ne xs.length b off cap xs w rfl (hcap _ _ _ rfl) h' hc

end Go.Proofs.Ytnblhkhdilkbeaa
