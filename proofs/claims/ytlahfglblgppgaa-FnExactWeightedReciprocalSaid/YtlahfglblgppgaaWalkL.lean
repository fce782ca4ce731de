/- Lists of directed edges: the program's check. -/
import Derived.Test.YtlahfglblgppgaaCoreA
set_option linter.unusedSimpArgs false
set_option linter.unusedVariables false
namespace Go.Proofs.Ytlahfglblgppgaa
open Go.RowKit

theorem RdI.at {lo hi : Nat} {w : World} {a : Option Addr} {n c : Nat} {xs : List Int} (h : RdI lo hi w (.slice a n c) xs) (hn : xs.length = n) : ∀ j, j < n → ∃ b off, a = some ⟨b, off, none⟩ ∧ w.cell? ⟨b, off + j, none⟩ = some (.int .i64 (xs.getD j 0)) := by
  intro j hj
  obtain ⟨_, _, ⟨a', c', rfl, _⟩ | ⟨b, off, c', hv, _, _, _, hc⟩⟩ := h
  · simp at hn; omega
  · simp only [Value.slice.injEq] at hv
    exact ⟨b, off, hv.1, hc j (by omega)⟩

/-- at most 20 directed edges of a graph of n edges -/
def walkB (n : Nat) (ws : List Int) : Bool := decide (ws.length ≤ 20) && ws.all (fun e => inR e (2 * (n : Int)))
theorem walkB_of {n : Nat} {ws : List Int} (h : walkB n ws = true) : ws.length ≤ 20 ∧ ∀ j, j < ws.length → inR (ws.getD j 0) (2 * (n : Int)) = true := by
  simp only [walkB, Bool.and_eq_true, decide_eq_true_eq, List.all_eq_true] at h
  refine ⟨h.1, fun j hj => ?_⟩
  have e : ws.getD j 0 = ws[j] := by simp [List.getD, List.getElem?_eq_getElem hj]
  rw [e]
  exact h.2 _ (List.getElem_mem hj)
theorem walkB_long {n : Nat} {ws : List Int} (h : ¬ ws.length ≤ 20) : walkB n ws = false := by simp [walkB, h]
theorem walkB_bad {n : Nat} {ws : List Int} {j : Nat} (hj : j < ws.length) (h : inR (ws.getD j 0) (2 * (n : Int)) = false) : walkB n ws = false := by
  by_cases e : walkB n ws = true
  · have := (walkB_of e).2 j hj
    rw [h] at this; cases this
  · simpa using e
theorem walkB_good {n : Nat} {ws : List Int} (hl : ws.length ≤ 20) (h : ∀ j, j < ws.length → inR (ws.getD j 0) (2 * (n : Int)) = true) : walkB n ws = true := by
  simp only [walkB, Bool.and_eq_true, decide_eq_true_eq, List.all_eq_true]
  refine ⟨hl, fun e he => ?_⟩
  obtain ⟨j, hj, rfl⟩ := List.getElem_of_mem he
  have := h j hj
  simpa [List.getD, List.getElem?_eq_getElem hj] using this

set_option maxHeartbeats 1600000 in
theorem isWalkList {lo hi : Nat} (s : Int) (a : Option Addr) (n c : Nat) (a1 : Option Addr) (n1 c1 : Nat) (ws : List Int) (w : World) (h : RdI lo hi w (.slice a1 n1 c1) ws) (hl : ws.length = n1) (hn10 : n ≤ 10) (hb1 : n1 ≤ 17592186044416) :
    Calls Try.prog 70 #[.agg #[.int .i64 s, .slice a n c], .slice a1 n1 c1] w fun e w' => e = .returned (.bool (walkB n ws)) ∧ Below w.heap.size w w' := by
  have HL := Lib.hid hl
  have HC := Lib.hid (h.at hl)
  clear hl h
  by_cases hlen : n1 ≤ 20
  · go_enter Try.func70, Try.ntmps70
    go_wp2
    have hB0 := (Below.refl w.heap.size w).alloc (Nat.le_refl _) (.cells #[.int .i64 s, .slice a n c] 29)
    have k0 : (w.alloc (.cells #[.int .i64 s, .slice a n c] 29)).cell? ⟨w.heap.size, 1, none⟩ = some (.slice a n c) := by go_simp
    obtain ⟨B, hBB⟩ : ∃ B, B = w.heap.size := ⟨_, rfl⟩
    have HF := Lib.hid (⟨k0, hB0⟩ : _ ∧ _)
    rw [← hBB] at k0 ⊢
    have HB := Lib.hid hBB
    clear k0 hB0 hBB
    go_loopw [12] (fun i wr => ∃ q : Nat, q ≤ n1 ∧ i = .int .i64 q ∧ Hid (∀ j, j < q → inR (ws.getD j 0) (2 * (n : Int)) = true) ∧ wr.cell? ⟨B, 1, none⟩ = some (.slice a n c) ∧ Below w.heap.size w wr) (fun i _ => n1 - (intOf i).toNat)
    case atStart => exact ⟨0, Nat.zero_le _, rfl, Lib.hid (fun j hj => by omega), by rw [HB.out]; exact HF.out.1, HF.out.2⟩
    case round =>
      obtain ⟨q, hq, rfl, HG, k0, hB⟩ := hrel
      by_cases hlq : q < n1
      · obtain ⟨b, off, rfl, g0⟩ := HC.out q hlq
        replace g0 := hB.keep g0
        obtain ⟨x, hx⟩ : ∃ x, x = ws.getD q 0 := ⟨_, rfl⟩
        rw [← hx] at g0
        have HX := Lib.hid hx
        clear hx
        have hmul : IntKind.i64.wrap (2 * (n : Int)) = 2 * (n : Int) := IntWalk.i64_in _ (by omega)
        cases hr : inR x (2 * (n : Int)) with
        | true =>
          have HR := Lib.hid hr
          clear hr
          go_wp2_with fail
          refine (isIndexV x (2 * (n : Int)) true HR.out _).mono ?_
          rintro e w4 ⟨rfl, q4⟩
          replace k0 := q4.below.keep k0
          replace hB := hB.next q4.below
          have hall : Hid (∀ j, j < q + 1 → inR (ws.getD j 0) (2 * (n : Int)) = true) := Lib.hid (fun j hj => by
            by_cases e : j < q
            · exact HG.out j e
            · obtain rfl : j = q := by omega
              rw [← HX.out]; exact HR.out)
          clear q4
          go_wp2
          go_roundw
          case rel => exact ⟨q+1, by omega, by go_num, hall, k0, hB⟩
          case measure => simp [intOf]; omega
        | false =>
          have HR := Lib.hid hr
          clear hr
          go_wp2_with fail
          refine (isIndexV x (2 * (n : Int)) false HR.out _).mono ?_
          rintro e w4 ⟨rfl, q4⟩
          replace hB := hB.next q4.below
          have hwb := walkB_bad (n := n) (ws := ws) (j := q) (by rw [HL.out]; exact hlq) (by rw [← HX.out]; exact HR.out)
          have HW := Lib.hid hwb
          clear q4 hwb
          go_wp2
          go_ret
          exact ⟨by rw [HW.out]; rfl, hB⟩
      · obtain rfl : q = n1 := by omega
        have hwb := walkB_good (n := n) (ws := ws) (by rw [HL.out]; exact hlen) (fun j hj => HG.out j (by rw [HL.out] at hj; exact hj))
        have HW := Lib.hid hwb
        clear hwb
        go_wp2
        go_ret
        exact ⟨by rw [HW.out]; rfl, hB⟩
  · have hwb := walkB_long (n := n) (ws := ws) (by rw [HL.out]; exact hlen)
    have HW := Lib.hid hwb
    clear hwb
    go_enter Try.func70, Try.ntmps70
    go_wp2
    go_ret
    exact ⟨by rw [HW.out]; rfl, (Below.refl _ _).alloc (Nat.le_refl _) _⟩

end Go.Proofs.Ytlahfglblgppgaa
