/- Traces of powers modulo a prime: plain mathematics. -/
import Derived.Test.YtebgbplhcaocoaaResD
import Derived.Test.YtebgbplhcaocoaaCoreC
set_option linter.unusedSimpArgs false
set_option linter.unusedVariables false
set_option maxRecDepth 100000
namespace Go.Proofs.Ytebgbplhcaocoaa
open Go.RowKit

def smW (u : Nat → Int) : Nat → Int
  | 0 => 0
  | k + 1 => smW u k + u k
theorem smW_congr {u v : Nat → Int} : ∀ {k : Nat}, (∀ i, i < k → u i = v i) → smW u k = smW v k
  | 0, _ => rfl
  | k + 1, h => by unfold smW; rw [smW_congr (fun i hi => h i (by omega)), h k (by omega)]
theorem smW_add (u v : Nat → Int) : ∀ k : Nat, smW u k + smW v k = smW (fun i => u i + v i) k
  | 0 => rfl
  | k + 1 => by simp only [smW]; rw [← smW_add u v k]; omega
theorem smW_mul (c : Int) (u : Nat → Int) : ∀ k : Nat, c * smW u k = smW (fun i => c * u i) k
  | 0 => by simp [smW]
  | k + 1 => by simp only [smW]; rw [← smW_mul c u k, Int.mul_add]
theorem smW_mulr (c : Int) (u : Nat → Int) (k : Nat) : smW u k * c = smW (fun i => u i * c) k := by
  rw [Int.mul_comm, smW_mul]; exact smW_congr fun i _ => Int.mul_comm _ _
theorem smW_zero : ∀ k : Nat, smW (fun _ => 0) k = 0
  | 0 => rfl
  | k + 1 => by simp only [smW]; rw [smW_zero k]; rfl
theorem smW_swap (g : Nat → Nat → Int) (M : Nat) : ∀ N : Nat, smW (fun r => smW (g r) M) N = smW (fun s => smW (fun r => g r s) N) M
  | 0 => by simp only [smW]; exact (smW_zero M).symm
  | N + 1 => by simp only [smW]; rw [smW_swap g M N, smW_add]
theorem smW_mod {p : Int} {u v : Nat → Int} : ∀ {k : Nat}, (∀ i, i < k → u i % p = v i % p) → smW u k % p = smW v k % p
  | 0, _ => rfl
  | k + 1, h => by unfold smW; rw [Int.add_emod, smW_mod (fun i hi => h i (by omega)), h k (by omega), ← Int.add_emod]

/-- the power q + 1, in whole numbers -/
def exM (N : Nat) (f : Nat → Nat → Int) : Nat → Nat → Nat → Int
  | 0 => f
  | q + 1 => fun i j => smW (fun r => exM N f q i r * f r j) N
theorem exM_left (N : Nat) (f : Nat → Nat → Int) : ∀ (q i j : Nat), smW (fun r => f i r * exM N f q r j) N = exM N f (q + 1) i j
  | 0, i, j => rfl
  | q + 1, i, j => by
    show smW (fun r => f i r * smW (fun s => exM N f q r s * f s j) N) N = smW (fun s => exM N f (q + 1) i s * f s j) N
    have h1 : ∀ r, r < N → f i r * smW (fun s => exM N f q r s * f s j) N = smW (fun s => f i r * exM N f q r s * f s j) N := fun r _ => by
      rw [smW_mul]; exact smW_congr fun s _ => (Int.mul_assoc _ _ _).symm
    rw [smW_congr h1, smW_swap]
    refine smW_congr fun s _ => ?_
    rw [← exM_left N f q i s, smW_mulr]
/-- the sum of the diagonal's first t numbers, modulo p -/
def trP (p : Int) (N : Nat) (f : Nat → Nat → Int) (q t : Nat) : Int := smW (fun r => exM N f q r r) t % p
theorem trP_zero (p : Int) (N : Nat) (f : Nat → Nat → Int) (q : Nat) : trP p N f q 0 = 0 := by simp [trP, smW]
theorem trP_next (p : Int) (N : Nat) (f : Nat → Nat → Int) (q t : Nat) : (trP p N f q t + exM N f q t t % p) % p = trP p N f q (t + 1) := by
  unfold trP; simp only [smW]; rw [← Int.add_emod]
theorem trP_in {p : Int} (N : Nat) (f : Nat → Nat → Int) (q t : Nat) (hp : 2 ≤ p) : 0 ≤ trP p N f q t ∧ trP p N f q t < p :=
  ⟨Int.emod_nonneg _ (by omega), Int.emod_lt_of_pos _ (by omega)⟩
/-- the weighted counts of 1 to K -/
def wcL (p : Int) (N : Nat) (f : Nat → Nat → Int) (K : Nat) : List Int := (List.range K).map (fun q => trP p N f q N)
theorem wcL_len (p : Int) (N : Nat) (f : Nat → Nat → Int) (K : Nat) : (wcL p N f K).length = K := by simp [wcL]

theorem wsN_sm (p : Int) (N : Nat) (f g : Nat → Nat → Int) (i a : Nat) : ∀ k : Nat, k ≤ N → wsN p (colL p N g i) (rowL p N f a) k = smW (fun r => f a r * g r i) k % p
  | 0, _ => by simp [wsN, smW]
  | k + 1, h => by
    unfold wsN smW
    rw [wsN_sm p N f g i a k (by omega), colL_get (by omega), rowL_get (by omega), Int.add_emod (smW (fun r => f a r * g r i) k), Int.mul_comm (f a k), Int.mul_emod (g k i)]
    rw [Int.add_emod (smW (fun r => f a r * g r i) k % p), Int.emod_emod_of_dvd _ (Int.dvd_refl p)]
/-- a column's product -/
theorem mulL_col (p : Int) (N : Nat) (f : Nat → Nat → Int) (q i : Nat) : mulL p N f (colL p N (exM N f q) i) N = colL p N (exM N f (q + 1)) i := by
  unfold mulL
  show _ = (List.range N).map (fun a => exM N f (q + 1) a i % p)
  refine List.map_congr_left fun a ha => ?_
  rw [wsN_sm p N f _ i a N (Nat.le_refl _), exM_left]

/-- the traces while the vertex i is added up to the power q -/
def trE (p : Int) (N : Nat) (f : Nat → Nat → Int) (K i q : Nat) : List (Int × Int) := (List.range K).map (fun r => if r < q then (trP p N f r (i + 1), p) else (trP p N f r i, if i = 0 then 0 else p))
theorem trE_len (p : Int) (N : Nat) (f : Nat → Nat → Int) (K i q : Nat) : (trE p N f K i q).length = K := by simp [trE]
theorem trE_get {p : Int} {N : Nat} {f : Nat → Nat → Int} {K i q : Nat} (h : q < K) : (trE p N f K i q).getD q (0, 0) = (trP p N f q i, if i = 0 then 0 else p) := by simp [trE, List.getD, h]
theorem trE_step {p : Int} {N : Nat} {f : Nat → Nat → Int} {K i q : Nat} (h : q < K) : (trE p N f K i q).set q (trP p N f q (i + 1), p) = trE p N f K i (q + 1) := by
  apply List.ext_getElem?
  intro j
  rw [List.getElem?_set]
  by_cases e : q = j
  · subst e; simp [trE, h]
  · rw [if_neg e]
    by_cases hj : j < K
    · simp only [trE, List.getElem?_map, List.getElem?_range hj, Option.map_some]
      by_cases c : j < q
      · rw [if_pos c, if_pos (show j < q + 1 by omega)]
      · rw [if_neg c, if_neg (show ¬ j < q + 1 by omega)]
    · simp [trE, hj]
theorem trE_start (p : Int) (N : Nat) (f : Nat → Nat → Int) (K : Nat) : trE p N f K 0 0 = List.replicate K (0, 0) := by
  apply List.ext_getElem?
  intro j
  by_cases hj : j < K
  · simp [trE, hj, trP_zero]
  · simp [trE, hj]
theorem trE_next (p : Int) (N : Nat) (f : Nat → Nat → Int) (K i : Nat) : trE p N f K i K = trE p N f K (i + 1) 0 := by
  refine List.map_congr_left fun r hr => ?_
  have hr := List.mem_range.1 hr
  rw [if_pos hr, if_neg (by omega), if_neg (by omega)]
theorem trE_fst (p : Int) (N : Nat) (f : Nat → Nat → Int) (K : Nat) : (trE p N f K N 0).map Prod.fst = wcL p N f K := by
  unfold trE wcL
  rw [List.map_map]
  refine List.map_congr_left fun r hr => ?_
  simp

/-- of the model: a product of numbers that are small -/
theorem dot_small {p : Int} (u v : Nat → Int) (hp : 2 ≤ p ∧ p ≤ 10007) (N : Nat) (hu : ∀ r, r < N → 0 ≤ u r ∧ u r < p) (hv : ∀ r, r < N → 0 ≤ v r ∧ v r < p) : ∀ k : Nat, k ≤ N → k ≤ 20 → dotW u v k = smW (fun r => u r * v r) k ∧ 0 ≤ dotW u v k ∧ dotW u v k ≤ k * 100140049
  | 0, _, _ => ⟨rfl, by simp [dotW], by simp [dotW]⟩
  | k + 1, h, h2 => by
    obtain ⟨e1, e2, e3⟩ := dot_small u v hp N hu hv k (by omega) (by omega)
    obtain ⟨u0, u1⟩ := hu k (by omega)
    obtain ⟨v0, v1⟩ := hv k (by omega)
    have m0 : 0 ≤ u k * v k := Int.mul_nonneg u0 v0
    have m1 : u k * v k ≤ 10007 * 10007 := Int.mul_le_mul (by omega) (by omega) v0 (by omega)
    have w1 : wrap64 (u k * v k) = u k * v k := IntWalk.wrap64_in _ (by omega)
    have w2 : wrap64 (dotW u v k + u k * v k) = dotW u v k + u k * v k := IntWalk.wrap64_in _ (by omega)
    have e4 : dotW u v (k + 1) = dotW u v k + u k * v k := by show wrap64 (dotW u v k + wrap64 (u k * v k)) = _; rw [w1, w2]
    refine ⟨by rw [e4, e1]; rfl, by omega, ?_⟩
    rw [e4]
    push_cast
    omega
/-- the power of the model -/
def mdM (p : Int) (N : Nat) (f : Nat → Nat → Int) (q : Nat) : Nat → Nat → Int := fun i j => exM N f q i j % p
theorem mdM_in {p : Int} (N : Nat) (f : Nat → Nat → Int) (q i j : Nat) (hp : 2 ≤ p) : 0 ≤ mdM p N f q i j ∧ mdM p N f q i j < p :=
  ⟨Int.emod_nonneg _ (by omega), Int.emod_lt_of_pos _ (by omega)⟩
theorem mdM_zero {p : Int} {N : Nat} {f : Nat → Nat → Int} (hf : ∀ i j, i < N → j < N → 0 ≤ f i j ∧ f i j < p) : tab N f = tab N (mdM p N f 0) := tab_congr fun i j hi hj => by
  obtain ⟨h0, h1⟩ := hf i j hi hj
  exact (Int.emod_eq_of_lt h0 h1).symm
theorem mdM_next {p : Int} {N : Nat} {f : Nat → Nat → Int} (hp : 2 ≤ p ∧ p ≤ 10007) (hN : N ≤ 20) (hf : ∀ i j, i < N → j < N → 0 ≤ f i j ∧ f i j < p) (q : Nat) {i j : Nat} (hi : i < N) (hj : j < N) :
    mulM N (mdM p N f q) f i j % p = mdM p N f (q + 1) i j ∧ 0 ≤ mulM N (mdM p N f q) f i j ∧ mulM N (mdM p N f q) f i j ≤ 2002800980 := by
  obtain ⟨e1, e2, e3⟩ := dot_small (mdM p N f q i) (fun k => f k j) hp N (fun r _ => mdM_in N f q i r hp.1) (fun r hr => hf r j hr hj) N (Nat.le_refl _) hN
  refine ⟨?_, e2, ?_⟩
  · show dotW (mdM p N f q i) (fun k => f k j) N % p = smW (fun r => exM N f q i r * f r j) N % p
    rw [e1]
    exact smW_mod fun r _ => by show (exM N f q i r % p * f r j) % p = _; rw [Int.mul_emod, Int.emod_emod_of_dvd _ (Int.dvd_refl p), ← Int.mul_emod]
  · show dotW (mdM p N f q i) (fun k => f k j) N ≤ _
    have : (N : Int) * 100140049 ≤ 20 * 100140049 := Int.mul_le_mul_of_nonneg_right (by omega) (by omega)
    omega

end Go.Proofs.Ytebgbplhcaocoaa
