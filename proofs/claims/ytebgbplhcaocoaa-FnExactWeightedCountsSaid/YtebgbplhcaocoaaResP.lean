/- Products of polynomials modulo a prime, of the program. -/
import Derived.Test.YtebgbplhcaocoaaResW
set_option linter.unusedSimpArgs false
set_option linter.unusedVariables false
set_option maxRecDepth 100000
namespace Go.Proofs.Ytebgbplhcaocoaa
open Go.RowKit

set_option maxHeartbeats 800000 in
theorem resTimes0 (y p : Int) (w : World) (hy : 0 ≤ y ∧ y ≤ 10007) (hp : 1 ≤ p ∧ p ≤ 10007) :
    Calls Try.prog 230 #[.agg #[.int .i64 0, .int .i64 0], .agg #[.int .i64 y, .int .i64 p]] w fun e w' => e = .returned (.agg #[.int .i64 0, .int .i64 p]) ∧ Below w.heap.size w w' := by
  have hb0 : ∀ o o' o'', Below w.heap.size w (((w.alloc o).alloc o').alloc o'') := fun o o' o'' => (((Below.refl _ _).alloc (Nat.le_refl _) o).alloc (by simp) o').alloc (by simp; omega) o''
  have hm1 : ¬ p < 0 := by omega
  have hm2 : (0 : Int) < p := by omega
  have z2 : wrap64 y = y := IntWalk.wrap64_in _ (by omega)
  have z1 : IntKind.i64.wrap y = y := IntWalk.i64_in _ (by omega)
  go_enter Try.func230, Try.ntmps230
  go_wp2_with fail
  obtain ⟨R, hR⟩ : ∃ R, R = w.heap.size + 1 + 1 := ⟨_, rfl⟩
  refine calls_gen (fun W => Below w.heap.size w W ∧ R < W.heap.size ∧ W.cell? ⟨R, 0, none⟩ = some (.int .i64 0) ∧ W.cell? ⟨R, 1, none⟩ = some (.int .i64 0) ∧ W.frozen? ⟨R, 0, none⟩ = false ∧ W.frozen? ⟨R, 1, none⟩ = false) ⟨hb0 _ _ _, by rw [hR]; simp, by rw [hR]; go_simp, by rw [hR]; go_simp, by rw [hR]; go_simp, by rw [hR]; go_simp⟩ ?_
  rintro W ⟨hB, hz, c0, c1, f0, f1⟩
  rw [← hR]
  have hRw : w.heap.size < R := by omega
  clear hR
  refine (residueOf 0 p W (by omega) hp).mono ?_
  rintro e w1 ⟨rfl, b1⟩
  replace c0 := b1.keep c0
  replace c1 := b1.keep c1
  replace f0 := b1.keepf hz f0
  replace f1 := b1.keepf hz f1
  replace hB := hB.next b1
  obtain ⟨r, hr⟩ : ∃ r, r = 0 % p := ⟨_, rfl⟩
  rw [← hr]
  have hf : Below w.heap.size w ((w1.setCell ⟨R, 0, none⟩ (.int .i64 r)).setCell ⟨R, 1, none⟩ (.int .i64 p)) := (hB.setCell (Nat.le_of_lt hRw) _).setCell (Nat.le_of_lt hRw) _
  have v0 : ((w1.setCell ⟨R, 0, none⟩ (.int .i64 r)).setCell ⟨R, 1, none⟩ (.int .i64 p)).cell? ⟨R, 0, none⟩ = some (.int .i64 r) := by
    rw [World.cell?_setCell_other _ _ _ _ (by simp)]; exact World.cell?_setCell_same _ _ _ c0
  have v1 : ((w1.setCell ⟨R, 0, none⟩ (.int .i64 r)).setCell ⟨R, 1, none⟩ (.int .i64 p)).cell? ⟨R, 1, none⟩ = some (.int .i64 p) := World.cell?_setCell_same _ _ _ (by rw [World.cell?_setCell_other _ _ _ _ (by simp)]; exact c1)
  have HR := Lib.hid hr
  clear hr hz b1 z1 z2
  go_wp2
  refine bodyPost_ret (v := .agg #[.int .i64 r, .int .i64 p]) (by simp [results, Try.results230, go_sem, v0, v1]) rfl ⟨by rw [HR.out, Int.zero_emod], hf⟩

theorem resTimesG (x y px p : Int) (w : World) (hpx : (px = 0 ∧ x = 0) ∨ px = p) (hx : 0 ≤ x ∧ x ≤ 10007) (hy : 0 ≤ y ∧ y ≤ 10007) (hp : 1 ≤ p ∧ p ≤ 10007) :
    Calls Try.prog 230 #[.agg #[.int .i64 x, .int .i64 px], .agg #[.int .i64 y, .int .i64 p]] w fun e w' => e = .returned (.agg #[.int .i64 (x * y % p), .int .i64 p]) ∧ Below w.heap.size w w' := by
  rcases hpx with ⟨h1, h2⟩ | h1
  · rw [h1, h2, Int.zero_mul, Int.zero_emod]; exact resTimes0 y p w hy hp
  · rw [h1]; exact resTimes x y p w hx hy hp

/-- the number at t of the product with the first numbers -/
def cvN (p : Int) (xs ys : List Int) (t : Nat) : Nat → Int
  | 0 => 0
  | i + 1 => if i ≤ t ∧ t - i < ys.length then (cvN p xs ys t i + xs.getD i 0 * ys.getD (t - i) 0) % p else cvN p xs ys t i
theorem cvN_in {p : Int} {xs ys : List Int} {t : Nat} (hp : 2 ≤ p) : ∀ i, 0 ≤ cvN p xs ys t i ∧ cvN p xs ys t i < p
  | 0 => ⟨by unfold cvN; omega, by unfold cvN; omega⟩
  | i + 1 => by
    unfold cvN
    split
    · exact ⟨Int.emod_nonneg _ (by omega), Int.emod_lt_of_pos _ (by omega)⟩
    · exact cvN_in hp i
/-- a pair of a number modulo p, or of the zero value -/
def GdP (p : Int) (e : Int × Int) : Prop := (e.2 = 0 ∧ e.1 = 0) ∨ e.2 = p
/-- the product while the row i is added up to the column j -/
structure PrI (p : Int) (xs ys : List Int) (L i j : Nat) (es : List (Int × Int)) : Prop where
  len : es.length = L
  val : ∀ t, t < L → (es.getD t (0, 0)).1 = if i ≤ t ∧ t - i < j then cvN p xs ys t (i + 1) else cvN p xs ys t i
  gd : ∀ t, t < L → GdP p (es.getD t (0, 0))
theorem PrI.step {p : Int} {xs ys : List Int} {L i j : Nat} {es : List (Int × Int)} (h : PrI p xs ys L i j es) (hj : j < ys.length) (hL : i + j < L) : PrI p xs ys L i (j + 1) (es.set (i + j) ((cvN p xs ys (i + j) i + xs.getD i 0 * ys.getD j 0) % p, p)) := by
  have hl := h.len
  refine ⟨by rw [List.length_set, hl], fun t ht => ?_, fun t ht => ?_⟩
  · by_cases e : t = i + j
    · subst e
      have e1 : (es.set (i + j) ((cvN p xs ys (i + j) i + xs.getD i 0 * ys.getD j 0) % p, p)).getD (i + j) (0, 0) = ((cvN p xs ys (i + j) i + xs.getD i 0 * ys.getD j 0) % p, p) := by simp [List.getD, List.getElem?_set, hl, ht]
      rw [e1, if_pos (by omega)]
      conv => rhs; unfold cvN
      rw [if_pos (by omega), show i + j - i = j by omega]
    · have e1 : (es.set (i + j) ((cvN p xs ys (i + j) i + xs.getD i 0 * ys.getD j 0) % p, p)).getD t (0, 0) = es.getD t (0, 0) := by simp [List.getD, List.getElem?_set, Ne.symm e]
      rw [e1, h.val t ht]
      by_cases c : i ≤ t ∧ t - i < j
      · rw [if_pos c, if_pos (by omega)]
      · rw [if_neg c, if_neg (by omega)]
  · by_cases e : t = i + j
    · subst e
      have e1 : (es.set (i + j) ((cvN p xs ys (i + j) i + xs.getD i 0 * ys.getD j 0) % p, p)).getD (i + j) (0, 0) = ((cvN p xs ys (i + j) i + xs.getD i 0 * ys.getD j 0) % p, p) := by simp [List.getD, List.getElem?_set, hl, ht]
      rw [e1]; exact .inr rfl
    · have e1 : (es.set (i + j) ((cvN p xs ys (i + j) i + xs.getD i 0 * ys.getD j 0) % p, p)).getD t (0, 0) = es.getD t (0, 0) := by simp [List.getD, List.getElem?_set, Ne.symm e]
      rw [e1]; exact h.gd t ht
theorem PrI.next {p : Int} {xs ys : List Int} {L i : Nat} {es : List (Int × Int)} (h : PrI p xs ys L i ys.length es) : PrI p xs ys L (i + 1) 0 es :=
  ⟨h.len, fun t ht => by
    rw [h.val t ht, if_neg (show ¬ (i + 1 ≤ t ∧ t - (i + 1) < 0) by omega)]
    by_cases c : i ≤ t ∧ t - i < ys.length
    · rw [if_pos c]
    · rw [if_neg c]
      conv => rhs; unfold cvN
      rw [if_neg c], h.gd⟩
theorem PrI.start (p : Int) (xs ys : List Int) (L : Nat) : PrI p xs ys L 0 0 (List.replicate L (0, 0)) :=
  ⟨by simp, fun t ht => by rw [if_neg (by omega)]; simp [List.getD, ht, cvN], fun t ht => .inl (by simp [List.getD, ht])⟩
theorem flat_put : ∀ (es : List (Int × Int)) (k : Nat) (u v : Int), ((flat es).set (k * 2) (.int .i64 u)).set (k * 2 + 1) (.int .i64 v) = flat (es.set k (u, v))
  | [], k, u, v => by simp [flat]
  | e :: r, 0, u, v => by simp [flat]
  | e :: r, k + 1, u, v => by
    have ih := flat_put r k u v
    have h1 : (k + 1) * 2 = k * 2 + 1 + 1 := by omega
    simp only [flat, List.flatMap_cons, List.set_cons_succ, List.cons_append, List.nil_append, h1] at ih ⊢
    rw [ih]
theorem flat_rep (L : Nat) : flat (List.replicate L (0, 0)) = setE [] L := by
  unfold setE
  simp only [flat, List.flatMap_nil, List.nil_append, List.length_nil, Nat.mul_zero, Nat.sub_zero]
  induction L with
  | zero => rfl
  | succ L ih =>
    rw [List.replicate_succ, List.flatMap_cons, ih, show 2 * (L + 1) = 2 * L + 1 + 1 by omega, List.replicate_succ, List.replicate_succ]
    rfl

end Go.Proofs.Ytebgbplhcaocoaa
