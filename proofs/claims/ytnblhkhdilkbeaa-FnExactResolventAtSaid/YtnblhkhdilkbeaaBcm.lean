/- Elimination by the program: numbers below a pivot, modulo a prime. -/
import Derived.Test.YtnblhkhdilkbeaaBc
import Derived.Deep.RegionHeld3
set_option linter.unusedSimpArgs false
set_option linter.unusedVariables false
set_option maxRecDepth 100000
namespace Go.Proofs.Ytnblhkhdilkbeaa
open Go.RowKit

theorem m_quoM (md : Int) (f : Nat) (w : World) : Sem.run Try.prog (method (f + 1) 74 (.int .i64 md) "loop.example/g01298/impl.quotient") w = .ok (66, .int .i64 md) w := by kernel_rfl
theorem m_redM (md : Int) (f : Nat) (w : World) : Sem.run Try.prog (method (f + 1) 74 (.int .i64 md) "loop.example/g01298/impl.reduced") w = .ok (107, .int .i64 md) w := by kernel_rfl

set_option maxHeartbeats 3200000 in
theorem clearM (md : Int) {B0 : Nat} {w0 : World} {E : Nat → Nat → Option Value} {X g N c : Nat} {rb cp : Nat → Nat} {f : Nat → Nat → Int} {p : Int} (w : World) (h : EL B0 w0 E X (.iface 74 (.int .i64 md)) g N c rb cp f p w) (hN : N ≤ 1000) (k : Nat) (hk : k < N) (hcap : N ≤ c) (q : Nat → Nat → Int)
    (hlim : ∀ i j, i < N → j < N → -1073741824 ≤ f i j ∧ f i j ≤ 1073741824)
    (hq : ∀ i j, k < i → i < N → j < N → ∀ W : World, Calls Try.prog 66 #[.int .i64 md, .int .i64 (f i j * f k k - f i k * f k j), .int .i64 p] W fun e w' => e = .returned (.int .i64 (q i j)) ∧ Below W.heap.size W w') :
    Calls Try.prog 134 #[.pointer (some ⟨X, 0, none⟩), .int .i64 (k : Int)] w fun e w' => e = .returned (.tuple #[]) ∧ EL B0 w0 E X (.iface 74 (.int .i64 md)) g N c rb cp (cleB f q k N N 0) p w' := by
  have HL := Lib.hid hlim
  have HQ := Lib.hid hq
  have u1 := h.n1
  have u4 := h.hd k hk
  have h0 : (0 : Int) ≤ (k : Int) := by omega
  have h1 : (k : Int) < (N : Int) := by omega
  have h2 : (k : Int) + 1 ≤ (N : Int) := by omega
  have h3 : (0 : Int) ≤ (k : Int) + 1 := by omega
  have hs1 : IntKind.i64.wrap ((k : Int) + 1) = (k : Int) + 1 := IntWalk.i64_in _ (by omega)
  have hs2 : wrap64 ((k : Int) + 1) = (k : Int) + 1 := IntWalk.wrap64_in _ (by omega)
  have HE := Lib.hid h
  have hslice : k + 1 ≤ N := hk
  have hc0 : (c = k + 1) = (c = k + 1) := rfl
  clear h hq hlim
  go_enter Try.func134, Try.ntmps134
  by_cases hck : c = k + 1
  · subst hck
    have hNk : N = k + 1 := by omega
    have hz : N - (k + 1) = 0 := by omega
    have HF := Lib.hid (show EL B0 w0 E X (.iface 74 (.int .i64 md)) g N (k + 1) rb cp (cleB f q k N N 0) p w by
      have := HE.out
      rw [show cleB f q k N N 0 = f by rw [hNk]; exact cleB_start f q k (k + 1)]; exact this)
    clear HE HQ HL hNk
    go_wp2
    refine wp_loop_rounds 1 ?_
    rw [rounds_succ]
    have hlt0 : ¬ ((0 : Int) < 0) := by omega
    go_wp2
    refine bodyPost_end (results_none rfl _ _ _) rfl ?_
    exact ⟨rfl, HF.out⟩
  · go_wp2
    clear u1 u4
    go_loopw [25] (fun i wr => ∃ m : Nat, k + 1 + m ≤ N ∧ i = .int .i64 m ∧ EL B0 w0 E X (.iface 74 (.int .i64 md)) g N c rb cp (cleB f q k N (k + 1 + m) 0) p wr) (fun i _ => N - (intOf i).toNat)
    case atStart => exact ⟨0, by omega, rfl, by rw [Nat.add_zero, cleB_start]; exact HE.out⟩
    case round =>
      clear HE
      obtain ⟨m, hm, rfl, hE⟩ := hrel
      obtain ⟨U, rfl⟩ : ∃ U, U = wr := ⟨_, rfl⟩
      by_cases hlt : k + 1 + m < N
      · have hltI : (m : Int) < ((N - (k + 1) : Nat) : Int) := by omega
        have u1 := hE.n1
        have u4 := hE.hd (k + 1 + m) hlt
        have u5 := hE.at_ (k + 1 + m) k hlt hk
        rw [cleB_row0] at u5
        have HEU := Lib.hid hE
        clear hE
        go_wp2
        clear u1 u4
        go_loopw [35] (fun i wr => ∃ j : Nat, j ≤ N ∧ i = .int .i64 j ∧ EL B0 w0 E X (.iface 74 (.int .i64 md)) g N c rb cp (cleB f q k N (k + 1 + m) j) p wr) (fun i _ => N - (intOf i).toNat)
        case atStart => exact ⟨0, Nat.zero_le _, rfl, HEU.out⟩
        case round =>
          clear HEU u5
          obtain ⟨j, hj, rfl, hE⟩ := hrel
          by_cases hjt : j < N
          · have hjI : (j : Int) < (N : Int) := by omega
            have hj0 : (0 : Int) ≤ (j : Int) := by omega
            have hkN : k < k + 1 + m := by omega
            have hq := HQ.out (k + 1 + m) j hkN hlt hjt
            have l1 := HL.out (k + 1 + m) j hlt hjt
            have l2 := HL.out k k hk hk
            have l3 := HL.out (k + 1 + m) k hlt hk
            have l4 := HL.out k j hk hjt
            have v0 := hE.n0
            have v2 := hE.n2
            have v3 := hE.at_ (k + 1 + m) j hlt hjt
            have v4 := hE.at_ k k hk hk
            have v5 := hE.at_ k j hk hjt
            have v6 := hE.fz (k + 1 + m) j hlt hjt
            have hst := cleB_put f q k N (k + 1 + m) j hkN hjt
            have hE0 := hE.inj k (k + 1 + m) hk hlt (by omega)
            rw [cleB_own] at v3
            rw [cleB_top] at v4 v5
            obtain ⟨x, hx⟩ : ∃ x, x = q (k + 1 + m) j := ⟨_, rfl⟩
            have hm1 : -1152921504606846976 ≤ f (k + 1 + m) j * f k k ∧ f (k + 1 + m) j * f k k ≤ 1152921504606846976 := bnd30 l1 l2
            have hm2 : -1152921504606846976 ≤ f (k + 1 + m) k * f k j ∧ f (k + 1 + m) k * f k j ≤ 1152921504606846976 := bnd30 l3 l4
            generalize f (k + 1 + m) j = y1 at v3 hq hm1
            generalize f k k = y2 at v4 hq hm1
            generalize f (k + 1 + m) k = y3 at hq hm2 ⊢
            generalize f k j = y4 at v5 hq hm2
            obtain ⟨z1, hz1⟩ : ∃ z, z = y1 * y2 := ⟨_, rfl⟩
            obtain ⟨z2, hz2⟩ : ∃ z, z = y3 * y4 := ⟨_, rfl⟩
            rw [← hz1] at hm1 hq
            rw [← hz2] at hm2 hq
            rw [← hx] at hq hst
            have t1 : IntKind.i64.wrap (y1 * y2) = z1 := by rw [← hz1]; exact IntWalk.i64_in _ (by omega)
            have t2 : wrap64 (y1 * y2) = z1 := by rw [← hz1]; exact IntWalk.wrap64_in _ (by omega)
            have t3 : IntKind.i64.wrap (y3 * y4) = z2 := by rw [← hz2]; exact IntWalk.i64_in _ (by omega)
            have t4 : wrap64 (y3 * y4) = z2 := by rw [← hz2]; exact IntWalk.wrap64_in _ (by omega)
            have t5 : IntKind.i64.wrap (z1 - z2) = z1 - z2 := IntWalk.i64_in _ (by omega)
            have t6 : wrap64 (z1 - z2) = z1 - z2 := IntWalk.wrap64_in _ (by omega)
            have HQQ := Lib.hid hq
            have HST := Lib.hid hst
            have HX := Lib.hid hx
            have HEW := Lib.hid hE
            clear hq hst hx hE l1 l2 l3 l4 hm1 hm2 hz1 hz2
            have hmq := m_quoM md
            go_wp2
            have d3 : wr.drew.cell? ⟨rb (k + 1 + m), j, none⟩ = _ := v3
            have d6 : wr.drew.frozen? ⟨rb (k + 1 + m), j, none⟩ = _ := v6
            have HDR := Lib.hid (HEW.out.drew)
            have HNE := Lib.hid (hE0 : rb k ≠ rb (k + 1 + m))
            have v4d : wr.drew.cell? ⟨rb k, k, none⟩ = _ := v4
            have v5d : wr.drew.cell? ⟨rb k, j, none⟩ = _ := v5
            have HKF := Lib.hid (World.block_lt_of_cell? wr.drew _ d3)
            go_region_held3 (fun W' => W'.cell? ⟨X, 0, none⟩ = some (.iface 74 (.int .i64 md)) ∧ W'.cell? ⟨X, 2, none⟩ = some (.int .i64 p) ∧ W'.cell? ⟨rb k, k, none⟩ = some (.int .i64 y2) ∧ W'.cell? ⟨rb k, j, none⟩ = some (.int .i64 y4))
              (first | (exact ⟨v0, v2, v4, v5⟩) | (exact ⟨z0, z2', z4, z5⟩) | (go_split_ands; exact ⟨b2.keep (by assumption), b2.keep (by assumption), b2.keep (by assumption), b2.keep (by assumption)⟩) | go_keep)
              (first
                | (go_at_call 66; refine (HQQ.out _).mono ?_; rintro e w2 ⟨rfl, b2⟩; have y3' := b2.keep d3; have y6' := b2.keepf HKF.out d6; have E2 := (HDR.out.next b2 HDR.out.size).num hlt hjt x; have z0 := E2.n0; have z2' := E2.n2; have z4 := cell_other (b' := rb (k + 1 + m)) (o' := j) (u := .int .i64 x) (b2.keep v4d) (Or.inl HNE.out); have z5 := cell_other (b' := rb (k + 1 + m)) (o' := j) (u := .int .i64 x) (b2.keep v5d) (Or.inl HNE.out)))
            all_goals
              rw [HST.out] at E2
              have HF := Lib.hid E2
              clear E2 z0 z2' z4 z5 y3' y6' b2 d3 d6 HDR HST HX v0 v2 v3 v4 v5 v6 v4d v5d HEW hmq t1 t2 t3 t4 t5 t6 HQQ HKF
              go_wp2
              go_roundw
              case rel => exact ⟨j+1, by omega, by go_num, HF.out⟩
              case measure => simp [intOf]; omega
          · obtain rfl : j = N := by omega
            have HF := Lib.hid hE
            clear hE
            rw [cleB_next] at HF
            go_wp2
            go_roundw
            case rel => exact ⟨m+1, by omega, by go_num, HF.out⟩
            case measure => simp [intOf]; omega
      · have hmN : m = N - (k + 1) := by omega
        have hltI : ¬ ((m : Int) < ((N - (k + 1) : Nat) : Int)) := by omega
        have hkm : k + 1 + m = N := by omega
        rw [hkm] at hE
        have HF := Lib.hid hE
        clear hE hkm hmN
        go_wp2
        refine bodyPost_end (results_none rfl _ _ _) rfl ?_
        exact ⟨rfl, HF.out⟩
end Go.Proofs.Ytnblhkhdilkbeaa
