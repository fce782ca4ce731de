/- Codes of subsets, by the model. -/
import Derived.Test.YtkipfjdlmomkfaaSp5
import Derived.Test.YtkipfjdlmomkfaaSpecWalkL
import Derived.Deep.QuietTactic
set_option linter.unusedSimpArgs false
set_option linter.unusedVariables false
set_option maxRecDepth 100000
namespace Go.Proofs.Ytkipfjdlmomkfaa
open Go.RowKit

theorem subOk_cases {n : Nat} {ws : List Int} {k : Nat} : subOk n ws k = (inR (ws.getD k 0) (n : Int) && !(decide (0 < k) && decide (ws.getD k 0 ≤ ws.getD (k - 1) 0))) := by
  unfold subOk
  by_cases h0 : k = 0
  · subst h0; simp
  · have e0 : (k == 0) = false := by simpa using h0
    have e1 : decide (0 < k) = true := by simp; omega
    rw [e0, e1, Bool.false_or, Bool.true_and]
    congr 1
    rw [Bool.eq_iff_iff]
    simp

theorem cd_ltP {n : Nat} {ws : List Int} : ∀ k, (∀ j, j < k → subOk n ws j = true) → cdN ws k < 2 ^ topN ws k ∧ topN ws k ≤ n
  | 0, _ => by simp [cdN, topN]
  | k + 1, h => by
    obtain ⟨ih, _⟩ := cd_ltP k (fun j hj => h j (by omega))
    have h1 := h k (by omega)
    have e : topN ws (k + 1) = (ws.getD k 0).toNat + 1 := by unfold topN; rw [if_neg (by omega), Nat.add_sub_cancel]
    have hin : 0 ≤ ws.getD k 0 ∧ ws.getD k 0 < (n : Int) := by
      unfold subOk inR at h1
      simp only [Bool.and_eq_true, decide_eq_true_eq] at h1
      exact h1.1
    have ht : topN ws k ≤ (ws.getD k 0).toNat := by
      unfold topN
      split
      · omega
      · rename_i h0
        have h2 := h (k - 1) (by omega)
        have e0 : (k == 0) = false := by simpa using h0
        unfold subOk at h1
        rw [e0, Bool.false_or, Bool.and_eq_true] at h1
        have h3 := of_decide_eq_true h1.2
        unfold subOk inR at h2
        simp only [Bool.and_eq_true, decide_eq_true_eq] at h2
        omega
    have hm : 2 ^ topN ws k ≤ 2 ^ (ws.getD k 0).toNat := Nat.pow_le_pow_right (by decide) ht
    refine ⟨?_, by omega⟩
    rw [e, Nat.pow_succ]
    unfold cdN
    omega
theorem cd_1024 {n : Nat} {ws : List Int} (hn : n ≤ 10) {k : Nat} (h : ∀ j, j < k → subOk n ws j = true) : cdN ws k < 1024 := by
  obtain ⟨h1, h2⟩ := cd_ltP k h
  exact Nat.lt_of_lt_of_le h1 (Nat.le_trans (Nat.pow_le_pow_right (by decide) (show topN ws k ≤ 10 by omega)) (by decide))
def cdRes (b : Bool) (n : Nat) : Int := if b = true then (n : Int) else 0
set_option maxHeartbeats 3200000 in
theorem l05Code {lo1 hi1 : Nat} (s : Int) (a : Option Addr) (n c : Nat) (a1 : Option Addr) (n1 c1 : Nat) (ws : List Int) (w : World) (hn10 : n ≤ 10) (h1 : RdI lo1 hi1 w (.slice a1 n1 c1) ws) (hl : ws.length = n1) :
    Calls Try.prog 97 #[.agg #[.int .i64 s, .slice a n c], .slice a1 n1 c1] w fun e w' => e = .returned (.tuple #[.int .i64 (cdRes (subB n ws) (cdN ws n1)), .bool (subB n ws)]) ∧ Below w.heap.size w w' := by
  have hb0 : ∀ o, Below w.heap.size w (w.alloc o) := fun o => (Below.refl _ _).alloc (Nat.le_refl _) o
  have hlen1 := h1.1
  rw [hl] at hlen1
  obtain ⟨B, hBe⟩ : ∃ B, B = subB n ws := ⟨_, rfl⟩
  rw [← hBe]
  have HBE := Lib.hid hBe
  have HR1 := Lib.hid h1
  have HL := Lib.hid hl
  clear h1 hl hBe
  go_enter Try.func97, Try.ntmps97
  go_wp2_with fail
  have hB := hb0 (.cells #[.int .i64 s, .slice a n c] 28)
  have k1 : (w.alloc (.cells #[.int .i64 s, .slice a n c] 28)).cell? ⟨w.heap.size, 1, none⟩ = some (.slice a n c) := by go_simp
  generalize w.alloc (.cells #[.int .i64 s, .slice a n c] 28) = W at hB k1 ⊢
  have HP0 := Lib.hid (⟨hB, k1⟩ : _ ∧ _)
  clear hB k1
  go_loopw [7, 6] (fun i cv wr => ∃ k : Nat, k ≤ n1 ∧ i = .int .i64 k ∧ cv = .int .i64 (cdN ws k) ∧ Hid (∀ j, j < k → subOk n ws j = true) ∧ cdN ws k < 1024 ∧ Below w.heap.size w wr ∧ wr.cell? ⟨w.heap.size, 1, none⟩ = some (.slice a n c)) (fun i _ _ => n1 - (intOf i).toNat)
  case atStart => exact ⟨0, Nat.zero_le _, rfl, rfl, Lib.hid (fun j hj => by omega), by simp [cdN], HP0.out⟩
  case round =>
    clear HP0
    obtain ⟨k, hk, rfl, rfl, HOK, hcd, hB, k1⟩ := hrel
    by_cases hlt : k < n1
    · have hcells := (HR1.out.below hB).cellsD HL.out
      obtain ⟨sb, so, rfl, g1⟩ := hcells k hlt
      have hkl : k < ws.length := by rw [HL.out]; exact hlt
      have HBAD := Lib.hid (fun e : subOk n ws k = false => show B = false by rw [HBE.out]; exact subB_no hkl e)
      have hsub := @subOk_cases n ws k
      have hcn : cdN ws (k + 1) = cdN ws k + 2 ^ (ws.getD k 0).toNat := rfl
      generalize hx : ws.getD k 0 = x at *
      generalize hp : ws.getD (k - 1) 0 = p at *
      cases hi : inR x (n : Int) with
      | false =>
        have hbd := HBAD.out (by rw [hsub, hi]; rfl)
        have HBD := Lib.hid hbd
        have HI2 := Lib.hid hi
        clear hbd hi hsub hcn hcells hcd hx hp
        go_wp2
        go_quiet ((go_at_call 94; exact Calls.quiet_of (l01InV _ _ false HI2.out _)))
        go_wp2
        go_ret2
        exact ⟨by rw [HBD.out]; rfl, hB.drewN _⟩
      | true =>
        have HI2 := Lib.hid hi
        rw [hi, Bool.true_and] at hsub
        by_cases hbad : 0 < k ∧ x ≤ p
        · obtain ⟨hk0, hxp⟩ := hbad
          have hbd := HBAD.out (by rw [hsub]; simp [hk0, hxp])
          have HBD := Lib.hid hbd
          obtain ⟨sb', so', hss, g2⟩ := hcells (k - 1) (by omega)
          simp only [Option.some.injEq, Addr.mk.injEq] at hss
          obtain ⟨rfl, rfl, _⟩ := hss
          rw [hp] at g2
          have hk0' : (0 : Int) < (k : Int) := by omega
          clear hbd hi hsub hcn hcells hcd hx hp
          go_wp2
          go_quiet ((go_at_call 94; exact Calls.quiet_of (l01InV _ _ true HI2.out _)))
          go_wp2
          go_ret2
          exact ⟨by rw [HBD.out]; rfl, hB.drewN _⟩
        · have hok : subOk n ws k = true := by
            rw [hsub]
            by_cases h0 : 0 < k
            · have : ¬ x ≤ p := fun h => hbad ⟨h0, h⟩
              simp [this]
            · simp [h0]
          have HOK2 : Hid (∀ j, j < k + 1 → subOk n ws j = true) := Lib.hid (fun j hj => by
            by_cases e : j = k
            · subst e; exact hok
            · exact HOK.out j (by omega))
          have hin : 0 ≤ x ∧ x < (n : Int) := by
            unfold inR at hi
            simp only [Bool.and_eq_true, decide_eq_true_eq] at hi
            exact hi
          obtain ⟨q, rfl⟩ : ∃ q : Nat, x = (q : Int) := ⟨x.toNat, by omega⟩
          have hq10 : q < 10 := by omega
          rw [Int.toNat_natCast] at hcn
          have hpw : 2 ^ q ≤ 512 := Nat.le_trans (Nat.pow_le_pow_right (by decide) (show q ≤ 9 by omega)) (by decide)
          have hcn2 : cdN ws (k + 1) < 1024 := cd_1024 hn10 HOK2.out
          have hv : wrap64 ((cdN ws k : Int) + wrap64 ((2 : Int) ^ q)) = (cdN ws (k + 1) : Int) := by
            have e1 : ((2 : Int) ^ q) = ((2 ^ q : Nat) : Int) := by rw [Int.natCast_pow]; rfl
            rw [e1, hcn]
            rw [hcn] at hcn2
            generalize (2 ^ q : Nat) = P at *
            generalize cdN ws k = C at *
            rw [IntWalk.wrap64_in (P : Int) (by omega), IntWalk.wrap64_in _ (by omega)]
            omega
          have HV := Lib.hid (⟨hv, hcn2⟩ : _ ∧ _)
          clear hi hsub hok hx hin hcn hcn2 hv hpw
          by_cases h0 : k = 0
          · subst h0
            clear hbad
            have g0 := g1
            rw [Nat.add_zero] at g0
            go_wp2
            go_quiet ((go_at_call 94; exact Calls.quiet_of (l01InV _ _ true HI2.out _)))
            go_wp2_with fail
            go_roundw
            case rel => exact ⟨0+1, by omega, by go_num, by rw [← HV.out.1], HOK2, HV.out.2, hB.drewN _, k1⟩
            case measure => simp [intOf]; omega
          · obtain ⟨sb', so', hss, g2⟩ := hcells (k - 1) (by omega)
            simp only [Option.some.injEq, Addr.mk.injEq] at hss
            obtain ⟨rfl, rfl, _⟩ := hss
            rw [hp] at g2
            have hk0' : (0 : Int) < (k : Int) := by omega
            have hqp : ¬ (q : Int) ≤ p := fun h => hbad ⟨by omega, h⟩
            have hk0 : 0 < k := by omega
            clear hbad h0 hcells hp
            go_wp2
            go_quiet ((go_at_call 94; exact Calls.quiet_of (l01InV _ _ true HI2.out _)))
            go_wp2_with fail
            go_roundw
            case rel => exact ⟨k+1, by omega, by go_num, by rw [← HV.out.1], HOK2, HV.out.2, hB.drewN _, k1⟩
            case measure => simp [intOf]; omega
    · obtain rfl : k = n1 := by omega
      have hby : B = true := by rw [HBE.out]; exact subB_yes (fun j hj => HOK.out j (by rw [← HL.out]; exact hj))
      have HBY := Lib.hid hby
      clear hby
      go_wp2
      go_ret2
      exact ⟨by rw [HBY.out]; rfl, hB⟩

end Go.Proofs.Ytkipfjdlmomkfaa
