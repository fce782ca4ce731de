/- The program's list without the zeros at its end. -/
import Derived.Test.YtnblhkhdilkbeaaOwn
import Derived.Test.YtnblhkhdilkbeaaCoreF
set_option linter.unusedSimpArgs false
set_option linter.unusedVariables false
set_option maxRecDepth 100000
namespace Go.Proofs.Ytnblhkhdilkbeaa
open Go.RowKit

theorem ownsRow_take {w : World} {lo : Nat} {e : TypeId} {g n c k : Nat} {xs : List Value} (h : w.ownsRow lo e 1 (.slice (some ⟨g, 0, none⟩) n c) n xs) (hk : k ≤ n) : w.ownsRow lo e 1 (.slice (some ⟨g, 0, none⟩) k c) k (xs.take k) := by
  obtain ⟨h1, h2⟩ := h
  rcases h2 with ⟨h2, _⟩ | ⟨g', cap, cur, hv, hb, hh, hle, hmx, hsz, htk⟩
  · simp at h2
  · simp only [Value.slice.injEq, Option.some.injEq, Addr.mk.injEq, and_true] at hv
    obtain ⟨rfl, _, rfl⟩ := hv
    refine ⟨by rw [List.length_take, h1]; omega, .inr ⟨g, c, cur, rfl, hb, hh, by omega, hmx, hsz, ?_⟩⟩
    rw [← htk, List.take_take]
    congr 1
    omega

set_option maxHeartbeats 1600000 in
theorem withoutZeros {lo hi : Nat} (g n c : Nat) (xs : List Int) (w : World) (h : OwI lo hi w (.slice (some ⟨g, 0, none⟩) n c) xs) (hl : xs.length = n) (hn : n ≤ 1000) (hnc : n ≤ c) :
    Calls Try.prog 117 #[.slice (some ⟨g, 0, none⟩) n c] w fun e w' => (∃ a', e = .returned (.slice a' (trim xs).length c) ∧ OwI lo hi w' (.slice a' (trim xs).length c) (trim xs)) ∧ Qt w w' := by
  have HL := Lib.hid hl
  have HO := Lib.hid h
  have HCE := Lib.hid (fun j (hj : j < n) => show w.cell? ⟨g, j, none⟩ = some (.int .i64 (xs.getD j 0)) by
    obtain ⟨b, off, e, hc⟩ := h.rd.at hl j hj
    simp only [Option.some.injEq, Addr.mk.injEq, and_true] at e
    rw [← e.1, ← e.2, Nat.zero_add] at hc
    exact hc)
  have HFIN := Lib.hid (fun (k : Nat) (W : World) (q : Qt w W) (hk : k ≤ n) (e : tl xs n = k) => show OwI lo hi W (.slice (some ⟨g, 0, none⟩) (trim xs).length c) (trim xs) ∧ (trim xs).length = k by
    have e1 : trim xs = xs.take k := by unfold trim; rw [hl, e]
    have e2 : (xs.take k).length = k := by rw [List.length_take, hl]; omega
    have hq := h.qt q
    rw [e1, e2]
    refine ⟨⟨by omega, fun x hx => hq.2.1 x (List.mem_of_mem_take hx), ?_, fun q hq' => hq.2.2.2 q hq'⟩, rfl⟩
    have := hq.2.2.1
    rw [hl] at this
    have h3 := ownsRow_take this hk
    rw [← List.map_take] at h3
    rw [e2]
    exact h3)
  clear hl h
  go_enter Try.func117, Try.ntmps117
  go_wp2
  go_loopw [0] (fun v wr => ∃ k : Nat, k ≤ n ∧ v = .slice (some ⟨g, 0, none⟩) k c ∧ Hid (tl xs n = tl xs k) ∧ Qt w wr) (fun v _ => match v with | .slice _ m _ => m | _ => 0)
  case atStart => exact ⟨n, Nat.le_refl _, rfl, Lib.hid rfl, Qt.refl _⟩
  case round =>
    obtain ⟨k, hk, rfl, HT, hq⟩ := hrel
    by_cases h0 : k = 0
    · have hb : decide ((0 : Int) < (k : Int)) = false := by rw [h0]; rfl
      obtain ⟨f1, f2⟩ := HFIN.out k wr hq hk (by rw [HT.out, h0]; rfl)
      have HF := Lib.hid (⟨f1, f2⟩ : _ ∧ _)
      clear f1 f2
      subst h0
      go_wp2
      go_ret
      exact ⟨⟨some ⟨g, 0, none⟩, by rw [HF.out.2]; rfl, HF.out.1⟩, hq⟩
    · obtain ⟨j, rfl⟩ : ∃ j, k = j + 1 := ⟨k - 1, by omega⟩
      have c0 := hq.cell (HCE.out j (by omega))
      have htl : tl xs (j + 1) = if xs.getD j 0 = 0 then tl xs j else j + 1 := rfl
      have HTL := Lib.hid htl
      clear htl
      obtain ⟨x, hx⟩ : ∃ x, x = xs.getD j 0 := ⟨_, rfl⟩
      rw [← hx] at c0
      rw [← hx] at HTL
      clear hx
      have hb : decide ((0 : Int) < ((j + 1 : Nat) : Int)) = true := decide_eq_true (by omega)
      have s1 : IntKind.i64.wrap (((j + 1 : Nat) : Int) - 1) = (j : Int) := by rw [show ((j + 1 : Nat) : Int) - 1 = (j : Int) by omega]; exact IntWalk.i64_in _ (by omega)
      have s2 : wrap64 (((j + 1 : Nat) : Int) - 1) = (j : Int) := by rw [show ((j + 1 : Nat) : Int) - 1 = (j : Int) by omega]; exact IntWalk.wrap64_in _ (by clear s1; omega)
      have s3 : (0 : Int) ≤ (j : Int) := by clear s1 s2; omega
      have s4 : (j : Int) < ((j + 1 : Nat) : Int) := by clear s1 s2; omega
      have s5 : (j : Int) ≤ (c : Int) := by clear s1 s2; omega
      by_cases hz : x = 0
      · have hzb : (x == 0) = true := by simpa using hz
        have HN : Hid (tl xs n = tl xs j) := Lib.hid (by rw [HT.out, HTL.out, if_pos hz])
        clear hz
        go_wp2
        go_roundw
        case rel => exact ⟨j, by clear s1 s2; omega, by first | rfl | (congr 1), HN, hq⟩
        case measure => first | (simp; done) | omega
      · have hzb : (x == 0) = false := by simpa using hz
        obtain ⟨f1, f2⟩ := HFIN.out (j + 1) wr hq hk (by rw [HT.out, HTL.out, if_neg hz])
        have HF := Lib.hid (⟨f1, f2⟩ : _ ∧ _)
        clear hz f1 f2
        go_wp2
        go_ret
        exact ⟨⟨some ⟨g, 0, none⟩, by rw [HF.out.2]; rfl, HF.out.1⟩, hq⟩

end Go.Proofs.Ytnblhkhdilkbeaa
