/- Closed walks, by the model. -/
import Derived.Test.YtlahfglblgppgaaSpecWalkL
import Derived.Test.YtlahfglblgppgaaCoreB
import Derived.Deep.RegionHeld3
set_option linter.unusedSimpArgs false
set_option linter.unusedVariables false
namespace Go.Proofs.Ytlahfglblgppgaa
open Go.RowKit

/-- the next number in a list, the first behind the last -/
def nextW (ws : List Int) (i : Nat) : Int := ws.getD ((i + 1) % ws.length) 0
def linkB (ds : List (Int × Int)) (ws : List Int) (i : Nat) : Bool := (ds.getD (nextW ws i).toNat (0, 0)).1 == (ds.getD (ws.getD i 0).toNat (0, 0)).2
def closedB (ds : List (Int × Int)) (ws : List Int) : Bool := (List.range ws.length).all (linkB ds ws) && decide (0 < ws.length)
theorem closedB_bad {ds : List (Int × Int)} {ws : List Int} {i : Nat} (hi : i < ws.length) (h : linkB ds ws i = false) : closedB ds ws = false := by
  have : (List.range ws.length).all (linkB ds ws) = false := by
    rw [List.all_eq_false]
    exact ⟨i, List.mem_range.2 hi, by simp [h]⟩
  simp [closedB, this]
theorem closedB_end {ds : List (Int × Int)} {ws : List Int} (h : ∀ i, i < ws.length → linkB ds ws i = true) : closedB ds ws = decide (0 < ws.length) := by
  have : (List.range ws.length).all (linkB ds ws) = true := by
    rw [List.all_eq_true]
    exact fun i hi => h i (List.mem_range.1 hi)
  simp [closedB, this]

set_option maxRecDepth 100000 in
set_option maxHeartbeats 6400000 in
theorem l02Closed {lo hi lo1 hi1 : Nat} (s : Int) (a : Option Addr) (n c : Nat) (xss : List (List Int)) (a1 : Option Addr) (n1 c1 : Nat) (ws : List Int) (w : World) (h : RdR lo hi w (.slice a n c) xss) (hn : xss.length = n) (hg : grB s xss = true) (h1 : RdI lo1 hi1 w (.slice a1 n1 c1) ws) (hl : ws.length = n1) (hw : walkB n ws = true) :
    Calls Try.prog 68 #[.agg #[.int .i64 s, .slice a n c], .slice a1 n1 c1] w fun e w' => e = .returned (.bool (closedB (dirE (pairs xss)) ws)) ∧ Below w.heap.size w w' := by
  have HL := Lib.hid hl
  have HC := Lib.hid (h1.at hl)
  have HR := Lib.hid h
  have hwo := walkB_of hw
  have hn1 : n1 ≤ 20 := by omega
  have HIN := Lib.hid (fun j (hj : j < n1) => show 0 ≤ ws.getD j 0 ∧ ws.getD j 0 < 2 * (n : Int) by
    have := hwo.2 j (by omega)
    unfold inR at this
    simpa using this)
  have HEN := Lib.hid (fun W' (h' : RdR lo hi W' (.slice a n c) xss) k h0 h1 => l01Ends s a n c xss W' h' hn hg k h0 h1)
  obtain ⟨ds, hds⟩ : ∃ ds, ds = dirE (pairs xss) := ⟨_, rfl⟩
  rw [← hds] at HEN ⊢
  clear hl h1 h hn hg hw hwo hds
  go_enter Try.func68, Try.ntmps68
  go_wp2
  have hB0 := (Below.refl w.heap.size w).alloc (Nat.le_refl _) (.cells #[.int .i64 s, .slice a n c] 29)
  have k0 : (w.alloc (.cells #[.int .i64 s, .slice a n c] 29)).cell? ⟨w.heap.size, 0, none⟩ = some (.int .i64 s) := by go_simp
  have k1 : (w.alloc (.cells #[.int .i64 s, .slice a n c] 29)).cell? ⟨w.heap.size, 1, none⟩ = some (.slice a n c) := by go_simp
  obtain ⟨B, hBB⟩ : ∃ B, B = w.heap.size := ⟨_, rfl⟩
  have HF := Lib.hid (⟨k0, k1, hB0⟩ : _ ∧ _ ∧ _)
  rw [← hBB] at k0 k1 ⊢
  have HB := Lib.hid hBB
  clear k0 k1 hB0 hBB
  go_loopw [5] (fun i wr => ∃ q : Nat, q ≤ n1 ∧ i = .int .i64 q ∧ Hid (∀ j, j < q → linkB ds ws j = true) ∧ wr.cell? ⟨B, 0, none⟩ = some (.int .i64 s) ∧ wr.cell? ⟨B, 1, none⟩ = some (.slice a n c) ∧ Below w.heap.size w wr) (fun i _ => n1 - (intOf i).toNat)
  case atStart => exact ⟨0, Nat.zero_le _, rfl, Lib.hid (fun j hj => by omega), by rw [HB.out]; exact HF.out.1, by rw [HB.out]; exact HF.out.2.1, HF.out.2.2⟩
  case round =>
    obtain ⟨q, hq, rfl, HG, k0, k1, hB⟩ := hrel
    by_cases hlq : q < n1
    · obtain ⟨r, hr⟩ : ∃ r, r = (q + 1) % n1 := ⟨_, rfl⟩
      have hr1 : r < n1 := by rw [hr]; exact Nat.mod_lt _ (by omega)
      have hm : ((q : Int) + 1).tmod (n1 : Int) = (r : Int) := by
        rw [Int.tmod_eq_emod_of_nonneg (by omega), hr, Int.natCast_emod, Int.natCast_add]; rfl
      have hn0 : ¬ (n1 : Int) = 0 := by omega
      have hn0' : ¬ n1 = 0 := by omega
      have hs1 : wrap64 ((q : Int) + 1) = (q : Int) + 1 := IntWalk.wrap64_in _ (by omega)
      have hs2 : IntKind.i64.wrap ((q : Int) + 1) = (q : Int) + 1 := IntWalk.i64_in _ (by omega)
      have hm2 : IntKind.i64.wrap (((q : Int) + 1).tmod (n1 : Int)) = (r : Int) := by rw [hm]; exact IntWalk.i64_in _ (by omega)
      have hw1 : wrap64 (r : Int) = (r : Int) := IntWalk.wrap64_in _ (by omega)
      have hw2 : IntKind.i64.wrap (r : Int) = (r : Int) := IntWalk.i64_in _ (by omega)
      have hr0 : (0 : Int) ≤ (r : Int) := by omega
      have hr2 : (r : Int) < (n1 : Int) := by omega
      obtain ⟨b, off, rfl, g0⟩ := HC.out q hlq
      obtain ⟨b', off', hbb, g1⟩ := HC.out r hr1
      obtain ⟨rfl, rfl⟩ : b' = b ∧ off' = off := by simp at hbb; exact ⟨hbb.1.symm, hbb.2.symm⟩
      replace g0 := hB.keep g0
      replace g1 := hB.keep g1
      obtain ⟨ix0, ix1⟩ := HIN.out q hlq
      obtain ⟨iy0, iy1⟩ := HIN.out r hr1
      obtain ⟨x, hx⟩ : ∃ x, x = ws.getD q 0 := ⟨_, rfl⟩
      obtain ⟨y, hy⟩ : ∃ y, y = ws.getD r 0 := ⟨_, rfl⟩
      rw [← hx] at g0 ix0 ix1
      rw [← hy] at g1 iy0 iy1
      obtain ⟨x0, hx0⟩ : ∃ z, z = (ds.getD x.toNat (0, 0)).1 := ⟨_, rfl⟩
      obtain ⟨x1, hx1⟩ : ∃ z, z = (ds.getD x.toNat (0, 0)).2 := ⟨_, rfl⟩
      obtain ⟨y0, hy0⟩ : ∃ z, z = (ds.getD y.toNat (0, 0)).1 := ⟨_, rfl⟩
      obtain ⟨y1, hy1⟩ : ∃ z, z = (ds.getD y.toNat (0, 0)).2 := ⟨_, rfl⟩
      have HLK := Lib.hid (show linkB ds ws q = (y0 == x1) by unfold linkB nextW; rw [HL.out, ← hr, ← hy, ← hx, ← hy0, ← hx1])
      have HE1 : Hid (∀ W', RdR lo hi W' (.slice a n c) xss → Calls Try.prog 124 #[.agg #[.int .i64 s, .slice a n c], .int .i64 x] W' fun e w' => e = .returned (.tuple #[.int .i64 x0, .int .i64 x1]) ∧ Below W'.heap.size W' w') := Lib.hid (fun W' h' => by rw [hx0, hx1]; exact HEN.out W' h' x ix0 ix1)
      have HE2 : Hid (∀ W', RdR lo hi W' (.slice a n c) xss → Calls Try.prog 124 #[.agg #[.int .i64 s, .slice a n c], .int .i64 y] W' fun e w' => e = .returned (.tuple #[.int .i64 y0, .int .i64 y1]) ∧ Below W'.heap.size W' w') := Lib.hid (fun W' h' => by rw [hy0, hy1]; exact HEN.out W' h' y iy0 iy1)
      clear hx hy hx0 hx1 hy0 hy1 hbb hr ix0 ix1 iy0 iy1
      go_wp2
      go_region_held3 (fun W' => Below wr.heap.size wr W' ∧ W'.cell? ⟨B, 0, none⟩ = some (.int .i64 s) ∧ W'.cell? ⟨B, 1, none⟩ = some (.slice a n c) ∧ W'.cell? ⟨b', off' + q, none⟩ = some (.int .i64 x))
        (first | (exact ⟨(Below.refl _ _).drew, k0, k1, g0⟩) | (go_split_ands; exact ⟨Below.next (by assumption) b5, b5.keep (by assumption), b5.keep (by assumption), b5.keep (by assumption)⟩))
        (first | (go_at_call 124; go_split_ands; refine (HE1.out _ (HR.out.below (hB.next (by assumption)))).mono ?_; rintro e w5 ⟨rfl, b5⟩))
      go_split_ands
      have bS : Below wr.heap.size wr w5 := by assumption
      clear b5
      replace k0 := bS.keep k0
      replace k1 := bS.keep k1
      replace g1 := bS.keep g1
      replace hB := hB.next bS
      clear bS g0
      go_wp2
      go_region_held3 (fun W' => Below w5.heap.size w5 W' ∧ W'.cell? ⟨B, 0, none⟩ = some (.int .i64 s) ∧ W'.cell? ⟨B, 1, none⟩ = some (.slice a n c) ∧ W'.cell? ⟨b', off' + r, none⟩ = some (.int .i64 y))
        (first | (exact ⟨(Below.refl _ _).drew, k0, k1, g1⟩) | (go_split_ands; exact ⟨Below.next (by assumption) b6, b6.keep (by assumption), b6.keep (by assumption), b6.keep (by assumption)⟩))
        (first | (go_at_call 124; go_split_ands; refine (HE2.out _ (HR.out.below (hB.next (by assumption)))).mono ?_; rintro e w6 ⟨rfl, b6⟩))
      go_split_ands
      have bS : Below w5.heap.size w5 w6 := by assumption
      clear b6
      replace k0 := bS.keep k0
      replace k1 := bS.keep k1
      replace hB := hB.next bS
      clear bS g1
      by_cases he : y0 = x1
      · have hall : Hid (∀ j, j < q + 1 → linkB ds ws j = true) := Lib.hid (fun j hj => by
          by_cases e : j < q
          · exact HG.out j e
          · obtain rfl : j = q := by omega
            rw [HLK.out, he]; simp)
        have hb : (y0 != x1) = false := by simpa using he
        clear he
        go_wp2
        go_roundw
        case rel => exact ⟨q+1, by omega, by go_num, hall, k0, k1, hB⟩
        case measure => simp [intOf]; omega
      · have hcb := closedB_bad (ds := ds) (ws := ws) (i := q) (by rw [HL.out]; exact hlq) (by rw [HLK.out]; simpa using he)
        have HW := Lib.hid hcb
        have hb : (y0 != x1) = true := by simpa using he
        clear he hcb
        go_wp2
        go_ret
        exact ⟨by rw [HW.out]; rfl, hB⟩
    · obtain rfl : q = n1 := by omega
      have hcb := closedB_end (ds := ds) (ws := ws) (fun j hj => HG.out j (by rw [HL.out] at hj; exact hj))
      rw [HL.out] at hcb
      have HW := Lib.hid hcb
      clear hcb
      go_wp2
      go_ret
      exact ⟨by rw [HW.out]; rfl, hB⟩

end Go.Proofs.Ytlahfglblgppgaa
