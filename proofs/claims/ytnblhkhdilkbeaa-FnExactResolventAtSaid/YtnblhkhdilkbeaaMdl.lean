/- Numbers modulo a prime of at most 101: the inverse of the program by the steps of Euclid, and of the model by trying. -/
import Derived.Test.YtnblhkhdilkbeaaPrimeB
import Derived.Test.YtnblhkhdilkbeaaResid
import Derived.Test.YtnblhkhdilkbeaaGaM
set_option linter.unusedSimpArgs false
set_option linter.unusedVariables false
set_option maxRecDepth 100000
namespace Go.Proofs.Ytnblhkhdilkbeaa
open Go.RowKit

/-- the steps of Euclid: rest, next, factor, next factor -/
def euS : Int × Int × Int × Int → Int × Int × Int × Int := fun s => if s.2.1 = 0 then s else (s.2.1, s.1 - Int.tdiv s.1 s.2.1 * s.2.1, s.2.2.2, s.2.2.1 - Int.tdiv s.1 s.2.1 * s.2.2.2)
def euK (p n : Int) : Nat → Int × Int × Int × Int
  | 0 => (n, p, 1, 0)
  | k + 1 => euS (euK p n k)
def okE (p n : Int) (s : Int × Int × Int × Int) : Bool := decide (0 ≤ s.1) && decide (s.1 ≤ 101) && decide (0 ≤ s.2.1) && decide (s.2.1 ≤ 101) && decide (-101 ≤ s.2.2.1) && decide (s.2.2.1 ≤ 101) && decide (-101 ≤ s.2.2.2) && decide (s.2.2.2 ≤ 101)
def endE (p n : Int) (s : Int × Int × Int × Int) : Bool := decide (s.2.1 = 0) && decide ((s.2.2.1 * n) % p = 1)
def prs : List Nat := [2, 3, 5, 7, 11, 13, 17, 19, 23, 29, 31, 37, 41, 43, 47, 53, 59, 61, 67, 71, 73, 79, 83, 89, 97, 101]
theorem prs_ok : ∀ p ∈ List.range 102, primeB (p : Int) = true → p ∈ prs := by decide +kernel
theorem eu_ok : ∀ p ∈ prs, ∀ n ∈ List.range p, n ≠ 0 → (List.range 13).all (fun k => okE p n (euK p n k)) = true ∧ endE p n (euK p n 12) = true := by decide +kernel

structure isPr (p : Int) : Prop where
  le : 2 ≤ p ∧ p ≤ 101
  mem : p.toNat ∈ prs
theorem isPr_of {p : Int} (h : primeB p = true) (h1 : p ≤ 101) : isPr p := by
  have h2 := primeB_hd h
  refine ⟨⟨h2.1, h1⟩, prs_ok p.toNat (List.mem_range.2 (by omega)) ?_⟩
  rw [Int.toNat_of_nonneg (by omega)]; exact h
theorem eu_at {p n : Int} (hp : isPr p) (hn : 1 ≤ n ∧ n < p) : (∀ k, k ≤ 12 → okE p n (euK p n k) = true) ∧ endE p n (euK p n 12) = true := by
  have h1 := eu_ok p.toNat hp.mem n.toNat (List.mem_range.2 (by omega)) (by omega)
  have e1 : ((p.toNat : Nat) : Int) = p := by omega
  have e2 : ((n.toNat : Nat) : Int) = n := by omega
  rw [e1, e2] at h1
  exact ⟨fun k hk => List.all_eq_true.1 h1.1 k (List.mem_range.2 (by omega)), h1.2⟩
def invO (p n : Int) : Int := (euK p n 12).2.2.1
theorem invO_is {p n : Int} (hp : isPr p) (hn : 1 ≤ n ∧ n < p) : (invO p n * n) % p = 1 ∧ -101 ≤ invO p n ∧ invO p n ≤ 101 := by
  obtain ⟨h1, h2⟩ := eu_at hp hn
  have h3 := h1 12 (Nat.le_refl _)
  simp only [endE, okE, Bool.and_eq_true, decide_eq_true_eq] at h2 h3
  unfold invO
  exact ⟨h2.2, h3.1.1.1.2, h3.1.1.2⟩
theorem reg_pr {p : Int} (hp : isPr p) (a : Int) (ha : a % p ≠ 0) : reg p a := by
  have hb := hp.le
  have h0 := Int.emod_nonneg a (show p ≠ 0 by omega)
  have h1 := Int.emod_lt_of_pos a (show 0 < p by omega)
  obtain ⟨hi, _⟩ := invO_is hp (n := a % p) (by omega)
  intro x hx
  have c1 : cq p (invO p (a % p) * (a % p)) 1 := by rw [cq_iff, hi, Int.emod_eq_of_lt (by omega) (by omega)]
  have c2 : cq p (invO p (a % p) * (a % p) * x) (1 * x) := cq_mul c1 (cq_refl p x)
  have c3 : cq p (a * x) 0 := by unfold cq; rw [Int.sub_zero]; exact hx
  have c4 : cq p (invO p (a % p) * ((a % p) * x)) (invO p (a % p) * 0) := cq_mul (cq_refl p _) (cq_trans (cq_mul (cq_emod p a) (cq_refl p x)) c3)
  rw [Int.mul_zero, ← Int.mul_assoc] at c4
  have c5 := cq_trans (cq_symm c2) c4
  rw [Int.one_mul] at c5
  unfold cq at c5
  rw [Int.sub_zero] at c5; exact c5

theorem fldR (a b : Int) (w : World) : Sem.run Try.prog (Instr.field 150 (.agg #[.int .i64 a, .int .i64 b]) 0) w = .ok (.int .i64 a) w := by kernel_rfl
set_option maxHeartbeats 1600000 in
theorem mRed (p n : Int) (w : World) (hn : -1000000000000 ≤ n ∧ n ≤ 1000000000000) (hp : 1 ≤ p ∧ p ≤ 10007) :
    Calls Try.prog 107 #[.int .i64 p, .int .i64 n] w fun e w' => e = .returned (.int .i64 (n % p)) ∧ Below w.heap.size w w' := by
  have HR := Lib.hid (residueOf n p w hn hp)
  generalize n % p = r at HR ⊢
  clear hn hp
  go_enter Try.func107, Try.ntmps107
  go_wp2_with fail
  refine HR.out.mono ?_
  rintro e w1 ⟨rfl, b1⟩
  have hf := fldR r p
  go_wp2
  go_ret
  exact ⟨rfl, b1⟩

set_option maxHeartbeats 1600000 in
theorem mInv (p n : Int) (w : World) (hp : isPr p) (hn : 1 ≤ n ∧ n < p) :
    Calls Try.prog 108 #[.int .i64 p, .int .i64 n] w fun e w' => e = .returned (.int .i64 (invO p n)) ∧ Qt w w' := by
  obtain ⟨h1, h2⟩ := eu_at hp hn
  have HO := Lib.hid h1
  have HE := Lib.hid h2
  clear h1 h2 hn hp
  go_enter Try.func108, Try.ntmps108
  go_wp2
  go_loopw [5, 6, 7, 8] (fun a b c d wr => ∃ k : Nat, k ≤ 12 ∧ a = .int .i64 (euK p n k).1 ∧ b = .int .i64 (euK p n k).2.1 ∧ c = .int .i64 (euK p n k).2.2.1 ∧ d = .int .i64 (euK p n k).2.2.2 ∧ Qt w wr) (fun _ b _ _ _ => (intOf b).toNat)
  case atStart => exact ⟨0, by omega, rfl, rfl, rfl, rfl, Qt.refl _⟩
  case round =>
    obtain ⟨k, hk, rfl, rfl, rfl, rfl, hq⟩ := hrel
    have hok := HO.out k hk
    have hst : euK p n (k + 1) = euS (euK p n k) := rfl
    by_cases hz : (euK p n k).2.1 = 0
    · have hfin : ∀ m, k ≤ m → euK p n m = euK p n k := by
        intro m
        induction m with
        | zero => intro h; have : k = 0 := by omega
                  subst this; rfl
        | succ m ih =>
          intro h
          by_cases e : k = m + 1
          · subst e; rfl
          · have h2 := ih (by omega)
            show euS (euK p n m) = _
            rw [h2]; unfold euS; rw [if_pos hz]
      have HF := Lib.hid (show (euK p n k).2.2.1 = invO p n by unfold invO; rw [hfin 12 hk])
      have hb : ((euK p n k).2.1 != 0) = false := by simp [hz]
      generalize euK p n k = s at hb HF ⊢
      clear hok hst hz hfin
      go_wp2
      go_ret
      exact ⟨by rw [← HF.out]; rfl, hq⟩
    · have hk12 : k ≠ 12 := by
        intro e
        subst e
        have := HE.out
        simp only [endE, Bool.and_eq_true, decide_eq_true_eq] at this
        exact hz this.1
      have hok2 := HO.out (k + 1) (by omega)
      rw [hst] at hok2
      simp only [okE, Bool.and_eq_true, decide_eq_true_eq] at hok hok2
      have hb : ((euK p n k).2.1 != 0) = true := by simp [hz]
      unfold euS at hst hok2
      rw [if_neg hz] at hst hok2
      have HST := Lib.hid hst
      generalize euK p n k = s at *
      obtain ⟨r, x, f, g⟩ := s
      dsimp only at hok hok2 hb hz HST ⊢
      obtain ⟨q, hqq⟩ : ∃ q, q = Int.tdiv r x := ⟨_, rfl⟩
      have hxp : 0 < x := by omega
      have hqe : q = r / x := by rw [hqq, Int.tdiv_eq_ediv_of_nonneg (by omega)]
      have hqb : 0 ≤ q ∧ q ≤ 101 := by
        rw [hqe]
        exact ⟨Int.ediv_nonneg (by omega) (by omega), Int.le_trans (Int.ediv_le_self _ (by omega)) (by omega)⟩
      have hlt : r - q * x < x := by
        have h1 := Int.emod_lt_of_pos r hxp
        rw [Int.emod_def, ← hqe, Int.mul_comm] at h1; exact h1
      rw [← hqq] at hok2 HST
      obtain ⟨z1, hz1⟩ : ∃ z, z = q * x := ⟨_, rfl⟩
      obtain ⟨z2, hz2⟩ : ∃ z, z = q * g := ⟨_, rfl⟩
      rw [← hz1] at hok2 HST hlt
      rw [← hz2] at hok2 HST
      have HLT := Lib.hid hlt
      have HOK := Lib.hid (⟨hok, hok2, hxp⟩ : _ ∧ _ ∧ _)
      have hdb : (x == 0) = false := by simpa using hz
      clear hqe hlt
      have a1 : IntKind.i64.wrap (Int.tdiv r x) = q := by rw [← hqq]; exact IntWalk.i64_in _ (by clear hqq hz1 hz2; omega)
      have a2 : wrap64 (Int.tdiv r x) = q := by rw [← hqq]; exact IntWalk.wrap64_in _ (by clear hqq hz1 hz2 a1; omega)
      have a3 : IntKind.i64.wrap (q * x) = z1 := by rw [← hz1]; exact IntWalk.i64_in _ (by clear hqq hz1 hz2 a1 a2; omega)
      have a4 : wrap64 (q * x) = z1 := by rw [← hz1]; exact IntWalk.wrap64_in _ (by clear hqq hz1 hz2 a1 a2 a3; omega)
      have a5 : IntKind.i64.wrap (q * g) = z2 := by rw [← hz2]; exact IntWalk.i64_in _ (by clear hqq hz1 hz2 a1 a2 a3 a4; omega)
      have a6 : wrap64 (q * g) = z2 := by rw [← hz2]; exact IntWalk.wrap64_in _ (by clear hqq hz1 hz2 a1 a2 a3 a4 a5; omega)
      have a7 : IntKind.i64.wrap (r - z1) = r - z1 := IntWalk.i64_in _ (by clear hqq hz1 hz2 a1 a2 a3 a4 a5 a6; omega)
      have a8 : wrap64 (r - z1) = r - z1 := IntWalk.wrap64_in _ (by clear hqq hz1 hz2 a1 a2 a3 a4 a5 a6 a7; omega)
      have a9 : IntKind.i64.wrap (f - z2) = f - z2 := IntWalk.i64_in _ (by clear hqq hz1 hz2 a1 a2 a3 a4 a5 a6 a7 a8; omega)
      have a10 : wrap64 (f - z2) = f - z2 := IntWalk.wrap64_in _ (by clear hqq hz1 hz2 a1 a2 a3 a4 a5 a6 a7 a8 a9; omega)
      clear hqq hz1 hz2 hok hok2 hxp hqb
      go_wp2
      clear a1 a2 a3 a4 a5 a6 a7 a8 a9 a10 hdb hb
      go_roundw
      case rel => exact ⟨k+1, by omega, by rw [HST.out], by rw [HST.out], by rw [HST.out], by rw [HST.out], hq⟩
      case measure =>
        have h1 := HLT.out
        have h2 := HOK.out
        simp only [intOf]
        omega

set_option maxHeartbeats 1600000 in
theorem mQuo (p n d x : Int) (w : World) (hp : isPr p) (hd : 1 ≤ d) (hd2 : d < p) (hn : -20000 ≤ n) (hn2 : n ≤ 20000) (hc : cq p n (d * x)) (hx : x % p = x) :
    Calls Try.prog 66 #[.int .i64 p, .int .i64 n, .int .i64 d] w fun e w' => e = .returned (.int .i64 x) ∧ Below w.heap.size w w' := by
  obtain ⟨hi, hb1, hb2⟩ := invO_is hp ⟨hd, hd2⟩
  have hle := hp.le
  have HI := Lib.hid (mInv p d w hp ⟨hd, hd2⟩)
  obtain ⟨v, hv⟩ : ∃ v, v = invO p d := ⟨_, rfl⟩
  rw [← hv] at hi hb1 hb2 HI
  obtain ⟨z, hz⟩ : ∃ z, z = n * v := ⟨_, rfl⟩
  have hzb : -2020000 ≤ z ∧ z ≤ 2020000 := by
    have h1 : (n * v).natAbs ≤ 20000 * 101 := by rw [Int.natAbs_mul]; exact Nat.mul_le_mul (by omega) (by omega)
    rw [hz]; omega
  have hzm : z % p = x := by
    rw [← hx, ← cq_iff, hz]
    have c1 : cq p (v * d) 1 := by rw [cq_iff, hi, Int.emod_eq_of_lt (by omega) (by omega)]
    have c2 := cq_mul hc (cq_refl p v)
    have c3 : cq p (v * d * x) (1 * x) := cq_mul c1 (cq_refl p x)
    have e : d * x * v = v * d * x := by rw [Int.mul_comm (d * x) v, Int.mul_assoc]
    rw [e] at c2
    have c4 := cq_trans c2 c3
    rw [Int.one_mul] at c4; exact c4
  have HR := Lib.hid (fun W => mRed p z W (by omega) (by omega))
  rw [hzm] at HR
  have m1 : IntKind.i64.wrap (n * v) = z := by rw [← hz]; exact IntWalk.i64_in _ (by clear hz; omega)
  have m2 : wrap64 (n * v) = z := by rw [← hz]; exact IntWalk.wrap64_in _ (by clear hz m1; omega)
  clear hp hd hd2 hn hn2 hc hx hi hb1 hb2 hle hv hz hzb hzm
  go_enter Try.func66, Try.ntmps66
  go_wp2_with fail
  refine HI.out.mono ?_
  rintro e w1 ⟨rfl, q1⟩
  go_wp2_with fail
  refine (HR.out w1).mono ?_
  rintro e w2 ⟨rfl, b2⟩
  go_wp2
  go_ret
  exact ⟨rfl, q1.below.next b2⟩
end Go.Proofs.Ytnblhkhdilkbeaa
