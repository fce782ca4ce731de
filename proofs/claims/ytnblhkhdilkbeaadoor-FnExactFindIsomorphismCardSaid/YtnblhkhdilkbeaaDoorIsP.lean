/- Isomorphisms: what is asked, and keepsLast of the program. -/
import Derived.Test.YtnblhkhdilkbeaaDoorSrt
import Derived.Test.YtnblhkhdilkbeaaDoorSimP
import Derived.Test.YtnblhkhdilkbeaaDoorCoreR
set_option linter.unusedSimpArgs false
set_option linter.unusedVariables false
set_option maxRecDepth 100000
namespace Go.Proofs.YtnblhkhdilkbeaaDoor
open Go.RowKit

/-- the vertices up to k keep their numbers with k -/
def klB (f h : Nat → Nat → Int) (m : Nat → Nat) (k : Nat) : Bool := (List.range (k + 1)).all (fun v => f k v == h (m k) (m v))
theorem klB_no {f h : Nat → Nat → Int} {m : Nat → Nat} {k v : Nat} (hv : v < k + 1) (e : f k v ≠ h (m k) (m v)) : klB f h m k = false := by
  unfold klB
  rw [List.all_eq_false]
  exact ⟨v, List.mem_range.2 hv, by simpa using e⟩
theorem klB_yes {f h : Nat → Nat → Int} {m : Nat → Nat} {k : Nat} (e : ∀ v, v < k + 1 → f k v = h (m k) (m v)) : klB f h m k = true := by
  unfold klB
  rw [List.all_eq_true]
  exact fun v hv => by simpa using e v (List.mem_range.1 hv)
def isoM (f h : Nat → Nat → Int) (m : Nat → Nat) (S : Nat) : Bool := (List.range S).all (fun i => (List.range S).all (fun j => f i j == h (m i) (m j)))
theorem isoM_no {f h : Nat → Nat → Int} {m : Nat → Nat} {S i j : Nat} (hi : i < S) (hj : j < S) (e : f i j ≠ h (m i) (m j)) : isoM f h m S = false := by
  unfold isoM
  rw [List.all_eq_false]
  refine ⟨i, List.mem_range.2 hi, ?_⟩
  rw [Bool.not_eq_true, List.all_eq_false]
  exact ⟨j, List.mem_range.2 hj, by simpa using e⟩
theorem isoM_yes {f h : Nat → Nat → Int} {m : Nat → Nat} {S : Nat} (e : ∀ i, i < S → ∀ j, j < S → f i j = h (m i) (m j)) : isoM f h m S = true := by
  unfold isoM
  rw [List.all_eq_true]
  intro i hi
  rw [List.all_eq_true]
  exact fun j hj => by simpa using e i (List.mem_range.1 hi) j (List.mem_range.1 hj)
theorem isoM_kl_no {f h : Nat → Nat → Int} {m : Nat → Nat} {S k : Nat} (hk : k < S) (e : klB f h m k = false) : isoM f h m S = false := by
  unfold klB at e
  rw [List.all_eq_false] at e
  obtain ⟨v, hv, e⟩ := e
  have := List.mem_range.1 hv
  exact isoM_no hk (by omega : v < S) (by simpa using e)
theorem isoM_kl_yes {f h : Nat → Nat → Int} {m : Nat → Nat} {S : Nat} (sf : ∀ i j, f i j = f j i) (sh : ∀ i j, h i j = h j i) (e : ∀ k, k < S → klB f h m k = true) : isoM f h m S = true := by
  have hkl : ∀ k v, k < S → v ≤ k → f k v = h (m k) (m v) := fun k v hk hv => by
    have := e k hk
    unfold klB at this
    rw [List.all_eq_true] at this
    simpa using this v (List.mem_range.2 (by omega))
  refine isoM_yes fun i hi j hj => ?_
  by_cases hij : j ≤ i
  · exact hkl i j hi hij
  · rw [sf, sh]; exact hkl j i hj (by omega)

set_option maxHeartbeats 3200000 in
theorem keepsLast {lo hi lo1 hi1 : Nat} (S k : Nat) (hk : k < S) (hS8 : S ≤ 8) (f g : Nat → Nat → Int) (a : Option Addr) (c : Nat) (a1 : Option Addr) (c1 : Nat) (lb loff lc : Nat) (m : Nat → Nat) (hm : ∀ j, j ≤ k → m j < S) (w : World) (h : RdR lo hi w (.slice a S c) (tab S f)) (h1 : RdR lo1 hi1 w (.slice a1 S c1) (tab S g)) (hl : ∀ j, j ≤ k → w.cell? ⟨lb, loff + j, none⟩ = some (.int .i64 (m j : Int))) :
    Calls Tryd.prog 69 #[.slice a S c, .slice a1 S c1, .slice (some ⟨lb, loff, none⟩) (k + 1) lc] w fun e w' => e = .returned (.bool (klB f g m k)) ∧ Qt w w' := by
  have HF := Lib.hid (fun W (hq : Qt w W) j (hj : j < S) => (h.qt hq).ent hk hj)
  have HG := Lib.hid (fun W (hq : Qt w W) j (hj : j < S) => (h1.qt hq).ent (hm k (Nat.le_refl _)) hj)
  have HL := Lib.hid (fun W (hq : Qt w W) j (hj : j ≤ k) => hq.below.keep (hl j hj))
  have HM := Lib.hid hm
  have HNO := Lib.hid (fun v (hv : v < k + 1) (e : f k v ≠ g (m k) (m v)) => klB_no hv e)
  have HYES := Lib.hid (fun (e : ∀ v, v < k + 1 → f k v = g (m k) (m v)) => klB_yes e)
  generalize klB f g m k = R at HNO HYES ⊢
  clear h h1 hl hm
  obtain ⟨N, hN⟩ : ∃ N, N = k + 1 := ⟨_, rfl⟩
  have HN := Lib.hid hN
  have hNi : IntKind.i64.wrap ((N : Int) - 1) = (k : Int) := by rw [show (N : Int) - 1 = (k : Int) by omega]; exact IntWalk.i64_in _ (by omega)
  have hNw : wrap64 ((N : Int) - 1) = (k : Int) := by rw [show (N : Int) - 1 = (k : Int) by clear hNi; omega]; exact IntWalk.wrap64_in _ (by clear hNi; omega)
  have hN8 : N ≤ 8 := by clear hNi hNw; omega
  have hkS : (k : Int) < (S : Int) := by clear hNi hNw; omega
  have hkN : (k : Int) < (N : Int) := by clear hNi hNw; omega
  have hk0 : (0 : Int) ≤ (k : Int) := by clear hNi hNw; omega
  rw [← hN]
  clear hN
  go_enter Tryd.func69, Tryd.ntmps69
  go_wp2
  clear hNi hNw
  go_loopw [15] (fun v wr => ∃ j : Nat, j ≤ N ∧ v = .int .i64 j ∧ Qt w wr ∧ Hid (∀ i, i < j → f k i = g (m k) (m i))) (fun v _ => N - (intOf v).toNat)
  case atStart => exact ⟨0, Nat.zero_le _, rfl, Qt.refl _, Lib.hid (fun i hi => by omega)⟩
  case round =>
    obtain ⟨v, hv, rfl, hq, HA⟩ := hrel
    by_cases hlt : v < N
    · have hvk : v ≤ k := by have := HN.out; omega
      have hvS : v < S := by omega
      have hmS := HM.out v hvk
      have hmk := HM.out k (Nat.le_refl _)
      have gl := HL.out wr hq v hvk
      have gk := HL.out wr hq k (Nat.le_refl _)
      obtain ⟨b, off, b', off', c', rfl, e2, e3⟩ := HF.out wr hq v hvS
      obtain ⟨d, doff, d', doff', dc, rfl, u2, u3⟩ := HG.out wr hq (m v) hmS
      have hno := HNO.out v (by omega)
      have HST := Lib.hid (fun (he : f k v = g (m k) (m v)) i (hi : i < v + 1) => show f k i = g (m k) (m i) by
        by_cases e : i = v
        · subst e; exact he
        · exact HA.out i (by omega))
      generalize hx : f k v = x at e3 hno
      generalize hy : g (m k) (m v) = y at u3 hno
      have HXY := Lib.hid (⟨hx, hy⟩ : _ ∧ _)
      clear hx hy
      obtain ⟨mv, hmv⟩ : ∃ mv, mv = m v := ⟨_, rfl⟩
      obtain ⟨mk, hmk2⟩ : ∃ mk, mk = m k := ⟨_, rfl⟩
      rw [← hmv] at hmS gl u3
      rw [← hmk2] at hmk gk u2
      clear hmv hmk2
      have hvN : (v : Int) < (N : Int) := by omega
      have hvSi : (v : Int) < (S : Int) := by omega
      have hmSi : (mv : Int) < (S : Int) := by omega
      have hmkSi : (mk : Int) < (S : Int) := by omega
      have hm0 : (0 : Int) ≤ (mv : Int) := by omega
      have hmk0 : (0 : Int) ≤ (mk : Int) := by omega
      have HQ := Lib.hid hq
      by_cases he : x = y
      · have hb : (x != y) = false := by simp [he]
        have HN2 := Lib.hid (HST.out (by rw [HXY.out.1, HXY.out.2]; exact he))
        clear hno he hq
        go_wp2
        go_quiet (fail)
        go_wp2
        go_roundw
        case rel => exact ⟨v+1, by omega, by go_num, HQ.out.drewN _, HN2⟩
        case measure => simp [intOf]; omega
      · have hb : (x != y) = true := by simpa using he
        have HF0 := Lib.hid (hno he)
        clear hno he hq
        go_wp2
        go_quiet (fail)
        go_wp2
        go_ret
        exact ⟨by rw [HF0.out]; rfl, HQ.out.drewN _⟩
    · obtain rfl : v = N := by omega
      have HF0 := Lib.hid (HYES.out (fun i hi => HA.out i (by have := HN.out; omega)))
      go_wp2
      go_ret
      exact ⟨by rw [HF0.out]; rfl, hq⟩

end Go.Proofs.YtnblhkhdilkbeaaDoor
