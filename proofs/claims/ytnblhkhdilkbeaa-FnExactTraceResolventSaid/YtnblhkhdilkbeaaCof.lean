/- place.cofactor: the determinant with a column of the unit matrix in the place of a column. -/
import Derived.Test.YtnblhkhdilkbeaaPlc
set_option linter.unusedSimpArgs false
set_option linter.unusedVariables false
set_option maxRecDepth 100000
namespace Go.Proofs.Ytnblhkhdilkbeaa
open Go.RowKit

/-- zeros in the column e, in the rows below k -/
def colZ (A : Nat → Nat → Int) (e k : Nat) : Nat → Nat → Int := fun i j => if j = e ∧ i < k then 0 else A i j
theorem colZ_0 (A : Nat → Nat → Int) (e : Nat) : colZ A e 0 = A := by
  funext i j; unfold colZ; rw [if_neg (by omega)]
theorem colZ_put (A : Nat → Nat → Int) (e k : Nat) : put (colZ A e k) k e 0 = colZ A e (k + 1) := by
  funext i j
  unfold put colZ
  by_cases h : i = k ∧ j = e
  · obtain ⟨rfl, rfl⟩ := h
    rw [if_pos ⟨rfl, rfl⟩, if_pos ⟨rfl, by omega⟩]
  · rw [if_neg h]
    by_cases h2 : j = e ∧ i < k
    · rw [if_pos h2, if_pos (by omega)]
    · rw [if_neg h2, if_neg (by omega)]
/-- the unit column -/
def unC (A : Nat → Nat → Int) (N e f : Nat) : Nat → Nat → Int := put (colZ A e N) f e 1
def cofV (xss : List (List Int)) (p u : Int) (e f : Nat) : Int := dt (tp (unC (plM (edgeM (dirE (pairs xss))) p u) (2 * xss.length) e f) (2 * xss.length)) (List.range (2 * xss.length)) % p
theorem cofV_bd (xss : List (List Int)) {p : Int} (u : Int) (e f : Nat) (hp : 2 ≤ p) : 0 ≤ cofV xss p u e f ∧ cofV xss p u e f < p := ⟨Int.emod_nonneg _ (by omega), Int.emod_lt_of_pos _ (by omega)⟩

set_option maxHeartbeats 1600000 in
theorem cofactor {lo hi : Nat} (s : Int) (a : Option Addr) (n c : Nat) (xss : List (List Int)) (p u : Int) (e f : Nat) (w : World) (h : RdR lo hi w (.slice a n c) xss) (hn : xss.length = n) (hg : grB s xss = true) (hp : isPr p) (hu : 0 ≤ u ∧ u < p) (he : e < 2 * n) (hf : f < 2 * n) :
    Calls Try.prog 67 #[.agg #[.int .i64 s, .slice a n c, .int .i64 p, .int .i64 u], .int .i64 (e : Int), .int .i64 (f : Int)] w fun en w' => en = .returned (.int .i64 (cofV xss p u e f)) ∧ Below w.heap.size w w' := by
  have hb0 : ∀ o, Below w.heap.size w (w.alloc o) := fun o => (Below.refl _ _).alloc (Nat.le_refl _) o
  have hg4 := grB_iff hg
  have hple := hp.le
  have HR := Lib.hid (fun W (hB : Below w.heap.size w W) => placeRows s a n c xss p u W (h.below hB) hn hg hp.le hu)
  obtain ⟨N, hN⟩ : ∃ N, N = 2 * n := ⟨_, rfl⟩
  have HV := Lib.hid (show cofV xss p u e f = dt (tp (unC (plM (edgeM (dirE (pairs xss))) p u) N e f) N) (List.range N) % p by unfold cofV; rw [hn, ← hN])
  rw [← hN] at HR he hf
  have hN20 : N ≤ 20 := by omega
  have HPM := Lib.hid (show ∀ i j, plM (edgeM (dirE (pairs xss))) p u i j % p = plM (edgeM (dirE (pairs xss))) p u i j from fun i j => Int.emod_emod _ _)
  generalize plM (edgeM (dirE (pairs xss))) p u = A at HR HV HPM
  generalize cofV xss p u e f = D at HV ⊢
  have HD := Lib.hid (fun (L H : Nat) (a2 : Option Addr) (c2 : Nat) (W : World) (ho : OwR L H W (.slice a2 N c2) (tab N (unC A N e f))) (hL : L ≤ W.heap.size) => detMa hp hN20 a2 c2 _ W ho hL (fun i j _ _ => by
    unfold unC put colZ
    split
    · exact Int.emod_eq_of_lt (by decide) (by omega)
    · split
      · simp
      · exact HPM.out i j))
  clear h hn hg hg4 hp hu hN
  go_enter Try.func67, Try.ntmps67
  go_wp2_with fail
  refine calls_gen (fun W => Below w.heap.size w W ∧ w.heap.size < W.heap.size ∧ W.cell? ⟨w.heap.size, 2, none⟩ = some (.int .i64 p)) ⟨hb0 _, by simp, by go_simp⟩ ?_
  rintro W ⟨hB, hz, k2⟩
  refine (HR.out W hB).mono ?_
  rintro en w1 ⟨a4, c4, rfl, o4, b4⟩
  replace k2 := b4.keep k2
  have HK := Lib.hid (⟨o4, hB.next b4, k2, hz⟩ : _ ∧ _ ∧ _ ∧ _)
  have hz4 := b4.size
  clear o4 b4 hB k2 HR
  go_wp2
  go_loopw [14] (fun i wr => ∃ k : Nat, k ≤ N ∧ i = .int .i64 k ∧ OwR W.heap.size w1.heap.size wr (.slice a4 N c4) (tab N (colZ A e k)) ∧ Below w.heap.size w wr ∧ wr.cell? ⟨w.heap.size, 2, none⟩ = some (.int .i64 p) ∧ wr.heap.size = w1.heap.size) (fun i _ => N - (intOf i).toNat)
  case atStart =>
    obtain ⟨o, b, k2, _⟩ := HK.out
    exact ⟨0, Nat.zero_le _, rfl, by rw [colZ_0]; exact o, b, k2, rfl⟩
  case round =>
    rename_i hrel
    obtain ⟨k, hk, rfl, hO, hB, k2, hs⟩ := hrel
    by_cases hlt : k < N
    · have hkI : (k : Int) < (N : Int) := by omega
      have hk0 : (0 : Int) ≤ (k : Int) := by omega
      have he0 : (0 : Int) ≤ (e : Int) := by omega
      have heI : (e : Int) < (N : Int) := by omega
      obtain ⟨g, b, cb, rfl, e2, e3, e4, e5, e6, e7, e8, e9⟩ := hO.ent2 (i := k) (j := e) hlt he
      have hst := e9 0 I64_zero
      rw [colZ_put] at hst
      have hb : b ≠ w.heap.size := fun x => by have := Nat.lt_of_lt_of_le hz e5; omega
      have HF := Lib.hid (⟨hst, hB.setCell (p := ⟨b, e, none⟩) (Nat.le_of_lt (Nat.lt_of_lt_of_le hz e5)) _, cell_other k2 (.inl (fun x => hb x.symm)), (World.size_setCell _ _ _).trans hs⟩ : _ ∧ Below w.heap.size w (wr.setCell ⟨b, e, none⟩ (.int .i64 0)) ∧ (wr.setCell ⟨b, e, none⟩ (.int .i64 0)).cell? ⟨w.heap.size, 2, none⟩ = some (.int .i64 p) ∧ (wr.setCell ⟨b, e, none⟩ (.int .i64 0)).heap.size = w1.heap.size)
      clear e9 hst hO hB k2 HK
      go_wp2
      go_roundw
      case rel => exact ⟨k+1, by omega, by go_num, HF.out⟩
      case measure => simp [intOf]; omega
    · obtain rfl : k = N := by omega
      have hf0 : (0 : Int) ≤ (f : Int) := by omega
      have hfI : (f : Int) < (k : Int) := by omega
      have he0 : (0 : Int) ≤ (e : Int) := by omega
      have heI : (e : Int) < (k : Int) := by omega
      obtain ⟨g, b, cb, rfl, e2, e3, e4, e5, e6, e7, e8, e9⟩ := hO.ent2 (i := f) (j := e) hf he
      have hst := e9 1 (by unfold I64; omega)
      have hb : b ≠ w.heap.size := fun x => by have := Nat.lt_of_lt_of_le hz e5; omega
      have HF := Lib.hid (⟨hst, hB.setCell (p := ⟨b, e, none⟩) (Nat.le_of_lt (Nat.lt_of_lt_of_le hz e5)) _⟩ : _ ∧ Below w.heap.size w (wr.setCell ⟨b, e, none⟩ (.int .i64 1)))
      have k2' : (wr.setCell ⟨b, e, none⟩ (.int .i64 1)).cell? ⟨w.heap.size, 2, none⟩ = some (.int .i64 p) := cell_other k2 (.inl (fun x => hb x.symm))
      have hsz : (wr.setCell ⟨b, e, none⟩ (.int .i64 1)).heap.size = w1.heap.size := (World.size_setCell _ _ _).trans hs
      have HS := Lib.hid (⟨hsz, hz, hz4⟩ : _ ∧ _ ∧ _)
      clear e9 hst hO hB k2 HK hsz
      go_wp2_with fail
      refine (HD.out W.heap.size w1.heap.size _ c4 _ HF.out.1 (by rw [HS.out.1]; exact hz4)).mono ?_
      rintro en w5 ⟨rfl, b5⟩
      have HE := Lib.hid (HF.out.2.trans (b5.mono (Nat.le_of_lt hz)))
      clear b5 HF k2' e2 e3 e4
      go_wp2
      go_ret
      exact ⟨by rw [HV.out]; rfl, HE.out⟩
end Go.Proofs.Ytnblhkhdilkbeaa
