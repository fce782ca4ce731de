/- Walks of the model: is a list a walk; the codes. -/
import Derived.Test.YtlahfglblgppgaaNext
import Derived.Test.YtlahfglblgppgaaSpecWalkL
import Derived.Deep.RegionHeld3
set_option linter.unusedSimpArgs false
set_option linter.unusedVariables false
namespace Go.Proofs.Ytlahfglblgppgaa
open Go.RowKit

set_option maxRecDepth 100000 in
set_option maxHeartbeats 6400000 in
theorem l03Is {lo hi lo1 hi1 : Nat} (s : Int) (a : Option Addr) (n c : Nat) (xss : List (List Int)) (a1 : Option Addr) (n1 c1 : Nat) (ws : List Int) (w : World) (h : RdR lo hi w (.slice a n c) xss) (hn : xss.length = n) (hg : grB s xss = true) (h1 : RdI lo1 hi1 w (.slice a1 n1 c1) ws) (hl : ws.length = n1) :
    Calls Try.prog 149 #[.agg #[.int .i64 s, .slice a n c], .slice a1 n1 c1] w fun e w' => e = .returned (.bool (wkB (dirE (pairs xss)) ws)) ∧ Below w.heap.size w w' := by
  have hb1 : n1 ≤ 17592186044416 := by rw [← hl]; exact h1.1
  have hn10 : n ≤ 10 := by have := grB_iff hg; omega
  have HL := Lib.hid hl
  have HC := Lib.hid (h1.at hl)
  have HR := Lib.hid h
  have HNX := Lib.hid (fun W' (h' : RdR lo hi W' (.slice a n c) xss) x y i0 i1 j0 j1 => l03Next s a n c xss W' h' hn hg x y i0 i1 j0 j1)
  obtain ⟨ds, hds⟩ : ∃ ds, ds = dirE (pairs xss) := ⟨_, rfl⟩
  have HDL := Lib.hid (show ds.length = 2 * n by rw [hds, dirE_len, pairs_len, hn])
  rw [← hds] at HNX ⊢
  clear hl h1 h hn hg hds
  by_cases hlen : 1 ≤ n1 ∧ n1 ≤ 12
  · obtain ⟨hz1, hz2⟩ := hlen
    have hm2 : IntKind.i64.wrap (2 * (n : Int)) = 2 * (n : Int) := IntWalk.i64_in _ (by omega)
    have hm2' : wrap64 (2 * (n : Int)) = 2 * (n : Int) := IntWalk.wrap64_in _ (by omega)
    go_enter Try.func149, Try.ntmps149
    go_wp2
    have hB0 := (Below.refl w.heap.size w).alloc (Nat.le_refl _) (.cells #[.int .i64 s, .slice a n c] 29)
    have k0 : (w.alloc (.cells #[.int .i64 s, .slice a n c] 29)).cell? ⟨w.heap.size, 0, none⟩ = some (.int .i64 s) := by go_simp
    have k1 : (w.alloc (.cells #[.int .i64 s, .slice a n c] 29)).cell? ⟨w.heap.size, 1, none⟩ = some (.slice a n c) := by go_simp
    obtain ⟨B, hBB⟩ : ∃ B, B = w.heap.size := ⟨_, rfl⟩
    have HF := Lib.hid (⟨k0, k1, hB0⟩ : _ ∧ _ ∧ _)
    rw [← hBB] at k0 k1 ⊢
    have HB := Lib.hid hBB
    clear k0 k1 hB0 hBB
    go_loopw [5] (fun i wr => ∃ q : Nat, q ≤ n1 ∧ i = .int .i64 q ∧ Hid (∀ j, j < q → 0 ≤ ws.getD j 0 ∧ ws.getD j 0 < 2 * (n : Int)) ∧ wr.cell? ⟨B, 0, none⟩ = some (.int .i64 s) ∧ wr.cell? ⟨B, 1, none⟩ = some (.slice a n c) ∧ Below w.heap.size w wr) (fun i _ => n1 - (intOf i).toNat)
    case atStart => exact ⟨0, Nat.zero_le _, rfl, Lib.hid (fun j hj => by omega), by rw [HB.out]; exact HF.out.1, by rw [HB.out]; exact HF.out.2.1, HF.out.2.2⟩
    case round =>
      obtain ⟨q, hq, rfl, HG, k0, k1, hB⟩ := hrel
      by_cases hlq : q < n1
      · obtain ⟨b, off, rfl, g0⟩ := HC.out q hlq
        replace g0 := hB.keep g0
        obtain ⟨x, hx⟩ : ∃ x, x = ws.getD q 0 := ⟨_, rfl⟩
        rw [← hx] at g0
        have HX := Lib.hid hx
        clear hx
        have hsub : IntKind.i64.wrap (2 * (n : Int) - 1) = 2 * (n : Int) - 1 := IntWalk.i64_in _ (by omega)
        have hsub' : wrap64 (2 * (n : Int) - 1) = 2 * (n : Int) - 1 := IntWalk.wrap64_in _ (by omega)
        cases hr : inR x (2 * (n : Int)) with
        | true =>
          have HR' := Lib.hid hr
          have hrr : 0 ≤ x ∧ x < 2 * (n : Int) := by unfold inR at hr; simpa using hr
          have hall : Hid (∀ j, j < q + 1 → 0 ≤ ws.getD j 0 ∧ ws.getD j 0 < 2 * (n : Int)) := Lib.hid (fun j hj => by
            by_cases e : j < q
            · exact HG.out j e
            · obtain rfl : j = q := by omega
              rw [← HX.out]; exact hrr)
          clear hr hrr
          go_wp2
          go_quiet ((go_at_call 77; exact Calls.quiet_of (l01InV _ _ true HR'.out _)))
          go_wp2
          go_roundw
          case rel => exact ⟨q+1, by omega, by go_num, hall, by go_simp, by go_simp, hB.drewN _⟩
          case measure => simp [intOf]; omega
        | false =>
          have HR' := Lib.hid hr
          have hrr : ¬ (0 ≤ x ∧ x < 2 * (n : Int)) := by unfold inR at hr; simpa using hr
          have hwb := wkB_out (ds := ds) (ws := ws) (i := q) (by rw [HL.out]; exact hlq) (by rw [← HX.out, HDL.out]; exact hrr)
          have HW := Lib.hid hwb
          clear hr hrr hwb
          go_wp2
          go_quiet ((go_at_call 77; exact Calls.quiet_of (l01InV _ _ false HR'.out _)))
          go_wp2
          go_ret
          exact ⟨by rw [HW.out]; rfl, hB.drewN _⟩
      · obtain rfl : q = n1 := by omega
        clear HF
        have HKK := Lib.hid (⟨k0, k1, hB⟩ : _ ∧ _ ∧ _)
        have HB := Lib.hid HB.out
        have hsz := wr.heap.size
        go_wp2
        go_loopw [6] (fun i wr' => ∃ p : Nat, p + 1 ≤ q ∧ i = .int .i64 ((p + 1 : Nat) : Int) ∧ Hid (∀ j, j < p → stepQ ds (ws.getD j 0) (ws.getD (j+1) 0) = true) ∧ wr'.cell? ⟨B, 0, none⟩ = some (.int .i64 s) ∧ wr'.cell? ⟨B, 1, none⟩ = some (.slice a n c) ∧ Below w.heap.size w wr') (fun i _ => q + 1 - (intOf i).toNat)
        case atStart => exact ⟨0, by omega, rfl, Lib.hid (fun j hj => by omega), HKK.out⟩
        case round =>
          rename_i hrel
          obtain ⟨p, hp, rfl, HP, k0, k1, hB⟩ := hrel
          clear HKK
          by_cases hlp : p + 1 < q
          · obtain ⟨b, off, rfl, g0⟩ := HC.out p (by omega)
            obtain ⟨b', off', hbb, g1⟩ := HC.out (p+1) hlp
            obtain ⟨rfl, rfl⟩ : b' = b ∧ off' = off := by simp at hbb; exact ⟨hbb.1.symm, hbb.2.symm⟩
            replace g0 := hB.keep g0
            replace g1 := hB.keep g1
            obtain ⟨ix0, ix1⟩ := HG.out p (by omega)
            obtain ⟨iy0, iy1⟩ := HG.out (p+1) hlp
            obtain ⟨x, hx⟩ : ∃ x, x = ws.getD p 0 := ⟨_, rfl⟩
            obtain ⟨y, hy⟩ : ∃ y, y = ws.getD (p+1) 0 := ⟨_, rfl⟩
            rw [← hx] at g0 ix0 ix1
            rw [← hy] at g1 iy0 iy1
            obtain ⟨v, hv⟩ : ∃ v, v = stepQ ds x y := ⟨_, rfl⟩
            have HN1 : Hid (∀ W', RdR lo hi W' (.slice a n c) xss → Calls Try.prog 155 #[.agg #[.int .i64 s, .slice a n c], .int .i64 x, .int .i64 y] W' fun e w' => e = .returned (.bool v) ∧ Below W'.heap.size W' w') := Lib.hid (fun W' h' => by rw [hv]; exact HNX.out W' h' x y ix0 ix1 iy0 iy1)
            have HV := Lib.hid (show v = stepQ ds (ws.getD p 0) (ws.getD (p+1) 0) by rw [hv, hx, hy])
            clear hx hy hv ix0 ix1 iy0 iy1 hbb
            have hs1 : wrap64 ((p : Int) + 1 - 1) = (p : Int) := by rw [Int.add_sub_cancel]; exact IntWalk.wrap64_in _ (by omega)
            have hs2 : IntKind.i64.wrap ((p : Int) + 1 - 1) = (p : Int) := by rw [Int.add_sub_cancel]; exact IntWalk.i64_in _ (by omega)
            have hs3 : ((p : Int) + 1).toNat = p + 1 := by omega
            have hs4 : IntKind.i64.wrap (p : Int) = (p : Int) := IntWalk.i64_in _ (by omega)
            have hs5 : wrap64 (p : Int) = (p : Int) := IntWalk.wrap64_in _ (by omega)
            have hi0 : (0 : Int) ≤ (p : Int) := by omega
            have hi1 : (p : Int) < (q : Int) := by omega
            have hi2 : (0 : Int) ≤ (p : Int) + 1 := by omega
            have hi3 : (p : Int) + 1 < (q : Int) := by omega
            go_wp2
            go_region_held3 (fun W' => Below wr.heap.size wr W' ∧ W'.cell? ⟨B, 0, none⟩ = some (.int .i64 s) ∧ W'.cell? ⟨B, 1, none⟩ = some (.slice a n c) ∧ W'.cell? ⟨b', off' + p, none⟩ = some (.int .i64 x) ∧ W'.cell? ⟨b', off' + (p + 1), none⟩ = some (.int .i64 y))
              (first | (exact ⟨(Below.refl _ _).drew, k0, k1, g0, g1⟩) | (go_split_ands; exact ⟨Below.next (by assumption) b5, b5.keep (by assumption), b5.keep (by assumption), b5.keep (by assumption), b5.keep (by assumption)⟩))
              (first | (go_at_call 155; go_split_ands; refine (HN1.out _ (HR.out.below (hB.next (by assumption)))).mono ?_; rintro e w5 ⟨rfl, b5⟩))
            go_split_ands
            have bS : Below wr.heap.size wr w5 := by assumption
            clear b5
            replace k0 := bS.keep k0
            replace k1 := bS.keep k1
            replace hB := hB.next bS
            clear bS g0 g1
            cases v with
            | true =>
              have hall : Hid (∀ j, j < p + 1 → stepQ ds (ws.getD j 0) (ws.getD (j+1) 0) = true) := Lib.hid (fun j hj => by
                by_cases e : j < p
                · exact HP.out j e
                · obtain rfl : j = p := by omega
                  exact HV.out.symm)
              go_wp2
              go_roundw
              case rel => exact ⟨p+1, by omega, by go_num, hall, k0, k1, hB⟩
              case measure => simp [intOf]; omega
            | false =>
              have hwb := wkB_gap (ds := ds) (ws := ws) (i := p) (by rw [HL.out]; exact hlp) HV.out.symm
              have HW := Lib.hid hwb
              clear hwb
              go_wp2
              go_ret
              exact ⟨by rw [HW.out]; rfl, hB⟩
          · obtain rfl : q = p + 1 := by omega
            have hwb := wkB_good (ds := ds) (ws := ws) (by rw [HL.out]; omega) (by rw [HL.out]; exact hz2) (by have := HG.out 0 (by omega); have := HDL.out; omega) (fun j hj => HP.out j (by rw [HL.out] at hj; omega))
            have HW := Lib.hid hwb
            clear hwb
            go_wp2
            go_ret
            exact ⟨by rw [HW.out]; rfl, hB⟩
  · have hwb := wkB_len (ds := ds) (ws := ws) (by rw [HL.out]; exact hlen)
    have HW := Lib.hid hwb
    clear hwb
    by_cases hz : n1 < 1
    · obtain rfl : n1 = 0 := by omega
      go_enter Try.func149, Try.ntmps149
      go_wp2
      go_ret
      exact ⟨by rw [HW.out]; rfl, (Below.refl _ _).alloc (Nat.le_refl _) _⟩
    · have hz1 : 1 ≤ n1 := by omega
      have hz2 : 12 < n1 := by omega
      go_enter Try.func149, Try.ntmps149
      go_wp2
      go_ret
      exact ⟨by rw [HW.out]; rfl, (Below.refl _ _).alloc (Nat.le_refl _) _⟩

end Go.Proofs.Ytlahfglblgppgaa
