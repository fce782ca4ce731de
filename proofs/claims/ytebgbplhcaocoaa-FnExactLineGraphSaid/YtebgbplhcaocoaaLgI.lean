/- Loops among edges: slices.ContainsFunc at a method expression. -/
import Derived.Test.YtebgbplhcaocoaaCoreB
import Derived.Test.YtebgbplhcaocoaaCoreL
set_option linter.unusedSimpArgs false
set_option linter.unusedVariables false
set_option maxRecDepth 100000
namespace Go.Proofs.Ytebgbplhcaocoaa
open Go.RowKit

def lpE (es : List (Int × Int)) : Bool := es.any (fun e => e.1 == e.2)
theorem lpE_yes {es : List (Int × Int)} {k : Nat} (hk : k < es.length) (e : (es.getD k (0, 0)).1 = (es.getD k (0, 0)).2) : lpE es = true := by
  unfold lpE
  rw [List.any_eq_true]
  refine ⟨es.getD k (0, 0), ?_, by simpa using e⟩
  simp only [List.getD, List.getElem?_eq_getElem hk, Option.getD_some]
  exact List.getElem_mem hk
theorem lpE_no {es : List (Int × Int)} (e : ∀ k, k < es.length → (es.getD k (0, 0)).1 ≠ (es.getD k (0, 0)).2) : lpE es = false := by
  unfold lpE
  rw [List.any_eq_false]
  intro p hp
  obtain ⟨k, hk, rfl⟩ := List.getElem_of_mem hp
  have := e k hk
  simpa [List.getD, List.getElem?_eq_getElem hk] using this

set_option maxHeartbeats 1600000 in
theorem indexLoop (a : Option Addr) (n c : Nat) (es : List (Int × Int)) (w : World) (h : RdE w a es) (hn : es.length = n) (h1 : n ≤ 1000) :
    Calls Try.prog 135 #[.slice a n c, .func (.func 84) #[] #[]] w fun e w' => (∃ v : Int, e = .returned (.int .i64 v) ∧ decide (0 ≤ v) = lpE es) ∧ Below w.heap.size w w' := by
  have HC := Lib.hid (fun W (hB : Below w.heap.size w W) k (hk : k < n) => show ∃ b, a = some ⟨b, 0, none⟩ ∧ W.cell? ⟨b, k * 2, none⟩ = some (.int .i64 (es.getD k (0, 0)).1) ∧ W.cell? ⟨b, k * 2 + 1, none⟩ = some (.int .i64 (es.getD k (0, 0)).2) by
    obtain ⟨b, h1, h2, h3, h4⟩ := h.below hB k (by omega)
    exact ⟨b, h1, h3, h4⟩)
  have HYES := Lib.hid (fun k (hk : k < n) (e : (es.getD k (0, 0)).1 = (es.getD k (0, 0)).2) => lpE_yes (es := es) (by rw [hn]; exact hk) e)
  have HNO := Lib.hid (fun (e : ∀ k, k < n → (es.getD k (0, 0)).1 ≠ (es.getD k (0, 0)).2) => lpE_no (es := es) (fun k hk => e k (by rw [← hn]; exact hk)))
  generalize lpE es = R at HYES HNO ⊢
  clear h hn
  go_enter Try.func135, Try.ntmps135
  go_wp2
  go_loopw [8] (fun v wr => ∃ k : Nat, k ≤ n ∧ v = .int .i64 k ∧ Below w.heap.size w wr ∧ Hid (∀ i, i < k → (es.getD i (0, 0)).1 ≠ (es.getD i (0, 0)).2)) (fun v _ => n - (intOf v).toNat)
  case atStart => exact ⟨0, Nat.zero_le _, rfl, Below.refl _ _, Lib.hid (fun i hi => by omega)⟩
  case round =>
    obtain ⟨k, hk, rfl, hB, HA⟩ := hrel
    by_cases hlt : k < n
    · obtain ⟨b, rfl, e0, e1⟩ := HC.out wr hB k hlt
      have hy := HYES.out k hlt
      have HN := Lib.hid (fun (hne : (es.getD k (0, 0)).1 ≠ (es.getD k (0, 0)).2) i (hi : i < k + 1) => show (es.getD i (0, 0)).1 ≠ (es.getD i (0, 0)).2 by
        by_cases e : i = k
        · subst e; exact hne
        · exact HA.out i (by omega))
      generalize hx : (es.getD k (0, 0)).1 = x at e0 hy
      generalize hz : (es.getD k (0, 0)).2 = y at e1 hy
      have HXY := Lib.hid (⟨hx, hz⟩ : _ ∧ _)
      clear hx hz
      have hkn : (k : Int) < (n : Int) := by omega
      have HBB := Lib.hid hB
      have HL := Lib.hid (isLoopL x y wr)
      clear hB
      go_wp2_with fail
      refine HL.out.mono ?_
      rintro e w2 ⟨rfl, b2⟩
      by_cases he : x = y
      · have hb : (x == y) = true := by simpa using he
        have HF := Lib.hid (hy he)
        have HB2 := Lib.hid (HBB.out.next b2)
        have hk0 : decide ((0 : Int) ≤ (k : Int)) = true := decide_eq_true (by omega)
        clear hy he b2 HL
        go_wp2
        go_ret
        exact ⟨⟨_, rfl, by rw [HF.out]; exact hk0⟩, HB2.out⟩
      · have hb : (x == y) = false := by simpa using he
        have HN2 := Lib.hid (HN.out (by rw [HXY.out.1, HXY.out.2]; exact he))
        have HB2 := Lib.hid (HBB.out.next b2)
        clear hy he b2 HL
        go_wp2
        go_roundw
        case rel => exact ⟨k+1, by omega, by go_num, HB2.out, HN2⟩
        case measure => simp [intOf]; omega
    · obtain rfl : k = n := by omega
      have HF := Lib.hid (HNO.out HA.out)
      go_wp2
      go_ret
      exact ⟨⟨_, rfl, by rw [HF.out]; rfl⟩, hB⟩

theorem containsLoop (a : Option Addr) (n c : Nat) (es : List (Int × Int)) (w : World) (h : RdE w a es) (hn : es.length = n) (h1 : n ≤ 1000) :
    Calls Try.prog 83 #[.slice a n c, .func (.func 84) #[] #[]] w fun e w' => e = .returned (.bool (lpE es)) ∧ Below w.heap.size w w' := by
  have HI := Lib.hid (indexLoop a n c es w h hn h1)
  clear h hn
  go_enter Try.func83, Try.ntmps83
  go_wp2_with fail
  refine HI.out.mono ?_
  rintro e w2 ⟨⟨v, rfl, hv⟩, b2⟩
  go_wp2
  go_ret
  exact ⟨by rw [← hv]; rfl, b2⟩

end Go.Proofs.Ytebgbplhcaocoaa
