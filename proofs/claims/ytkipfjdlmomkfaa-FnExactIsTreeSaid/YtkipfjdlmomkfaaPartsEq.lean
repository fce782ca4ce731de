/- PartsOf and RankOf: what both sides answer. -/
import Derived.Test.YtkipfjdlmomkfaaSpecPartsOf
import Derived.Test.YtkipfjdlmomkfaaImplPartsOf
set_option linter.unusedSimpArgs false
set_option linter.unusedVariables false
namespace Go.Proofs.Ytkipfjdlmomkfaa
open Go.RowKit

theorem specPartsL {lo hi : Nat} (s : Int) (a : Option Addr) (n c : Nat) (xss : List (List Int)) (w : World) (h : RdR lo hi w (.slice a n c) xss) (hn : xss.length = n) :
    Calls Try.prog 50 #[.agg #[.int .i64 s, .slice a n c]] w fun e w' => ∃ a' c', e = .returned (.tuple #[.slice a' (partsOf s xss).1.length c', .int .i64 (partsOf s xss).2]) ∧ OwR w.heap.size w'.heap.size w' (.slice a' (partsOf s xss).1.length c') (partsOf s xss).1 ∧ Below w.heap.size w w' := by
  unfold partsOf
  cases hg : grB s xss with
  | false =>
    rw [if_neg (by simp)]
    exact (specParts_no s a n c xss w h hn hg).mono fun e w' ⟨he, hb⟩ => ⟨none, 0, he, OwR.nil (World.ownsRow_nil _ _ _ _) (Nat.le_refl _), hb⟩
  | true =>
    rw [if_pos rfl]
    have h1 := grB_iff hg
    obtain ⟨S, rfl⟩ : ∃ S : Nat, s = S := ⟨s.toNat, by omega⟩
    exact specParts_yes S a n c xss w h hn hg
theorem implPartsL {lo hi : Nat} (s : Int) (a : Option Addr) (n c : Nat) (xss : List (List Int)) (w : World) (h : RdR lo hi w (.slice a n c) xss) (hn : xss.length = n) :
    Calls Try.prog 51 #[.agg #[.int .i64 s, .slice a n c]] w fun e w' => ∃ a' c', e = .returned (.tuple #[.slice a' (partsOf s xss).1.length c', .int .i64 (partsOf s xss).2]) ∧ OwR w.heap.size w'.heap.size w' (.slice a' (partsOf s xss).1.length c') (partsOf s xss).1 ∧ Below w.heap.size w w' := by
  unfold partsOf
  cases hg : grB s xss with
  | false =>
    rw [if_neg (by simp)]
    exact (implParts_no s a n c xss w h hn hg).mono fun e w' ⟨he, hb⟩ => ⟨none, 0, he, OwR.nil (World.ownsRow_nil _ _ _ _) (Nat.le_refl _), hb⟩
  | true =>
    rw [if_pos rfl]
    have h1 := grB_iff hg
    obtain ⟨S, rfl⟩ : ∃ S : Nat, s = S := ⟨s.toNat, by omega⟩
    exact implParts_yes S a n c xss w h hn hg

set_option maxRecDepth 100000 in
set_option maxHeartbeats 1600000 in
theorem l01Count {lo hi : Nat} (S : Nat) (a : Option Addr) (n c : Nat) (xss : List (List Int)) (w : World) (h : RdR lo hi w (.slice a n c) xss) (hn : xss.length = n) (hg : grB (S : Int) xss = true) :
    Calls Try.prog 102 #[.agg #[.int .i64 (S : Int), .slice a n c]] w fun e w' => e = .returned (.int .i64 ((rootsN (labelsN S (nE xss)) S).length : Int)) ∧ Below w.heap.size w w' := by
  have hb0 : ∀ o, Below w.heap.size w (w.alloc o) := fun o => (Below.refl _ _).alloc (Nat.le_refl _) o
  obtain ⟨hs1, hs2, h3, h4⟩ := grB_iff hg
  have hS1 : 1 ≤ S := by omega
  have hS8 : S ≤ 8 := by omega
  have HLB := Lib.hid (labelsI (nE_in hg))
  have HLP := Lib.hid (fun W' (h : RdR lo hi W' (.slice a n c) xss) => l01Parts S a n c xss W' h hn hg)
  generalize labelsN S (nE xss) = L at *
  have HLL := Lib.hid HLB.out.len
  clear hn hg h3 h4
  go_enter Try.func102, Try.ntmps102
  go_wp2_with fail
  refine calls_gen (fun W => Below w.heap.size w W) (hb0 _) ?_
  intro W hB
  refine (HLP.out _ (h.below hB)).mono ?_
  rintro e w2 ⟨a2, c2, rfl, o2, b2⟩
  replace hB := hB.next b2
  obtain ⟨g0, cap0, hv0, hg0, hg0w⟩ := o2.2.2.1.form (by rw [zs_len, HLL.out]; omega)
  simp only [Value.slice.injEq] at hv0
  obtain ⟨rfl, hS0, rfl⟩ := hv0
  clear hS0
  have hzl : (zs L).length = S := by rw [zs_len, HLL.out]
  have ow := o2.2.2.1
  rw [hzl] at ow
  have hcell : ∀ j, j < S → w2.cell? ⟨g0, j, none⟩ = some (.int .i64 (lab L j : Int)) := fun j hj => (ow.cellAt j (by omega)).trans (vz_get (by rw [HLL.out]; exact hj))
  have HC := Lib.hid hcell
  clear b2 o2 hcell hzl ow
  go_wp2
  go_loopw [5, 4] (fun i v wr => ∃ (k : Nat), k ≤ S ∧ i = .int .i64 k ∧ v = .int .i64 ((rootsN L k).length : Int) ∧ Qt w2 wr) (fun i _ _ => S - (intOf i).toNat)
  case atStart => exact ⟨0, Nat.zero_le _, rfl, rfl, Qt.refl _⟩
  case round =>
    obtain ⟨k, hk, rfl, rfl, hq⟩ := hrel
    have hle := rootsN_le L k
    by_cases hlt : k < S
    · have c0 := hq.cell (HC.out k hlt)
      by_cases hroot : lab L k = k
      · have hzz : ((lab L k : Nat) : Int) = (k : Int) := by rw [hroot]
        rw [hzz] at c0
        have hst : ((rootsN L (k+1)).length : Int) = ((rootsN L k).length : Int) + 1 := by rw [rootsN_in hroot, List.length_append]; simp
        generalize (rootsN L k).length = m at *
        have HST := Lib.hid hst
        clear hzz hroot hst
        go_wp2
        go_roundw
        case rel => exact ⟨k+1, by omega, by go_num, by rw [HST.out], hq⟩
        case measure => simp [intOf]; omega
      · have hzz : ¬ ((lab L k : Nat) : Int) = (k : Int) := by omega
        have hst := rootsN_out hroot
        generalize ((lab L k : Nat) : Int) = zz at *
        have hzb : (zz == (k : Int)) = false := by simpa using hzz
        have HST := Lib.hid hst
        clear hzz hroot hst
        go_wp2
        go_roundw
        case rel => exact ⟨k+1, by omega, by go_num, by rw [HST.out], hq⟩
        case measure => simp [intOf]; omega
    · obtain rfl : k = S := by omega
      have hBB := hB.qt hq
      go_wp2
      go_ret
      exact ⟨rfl, hBB⟩

def rankOf (s : Int) (xss : List (List Int)) : Int × Int := if grB s xss = true then ((xss.length : Int) - s + (rootsN (labelsN s.toNat (nE xss)) s.toNat).length, 0) else (0, 1)

end Go.Proofs.Ytkipfjdlmomkfaa
