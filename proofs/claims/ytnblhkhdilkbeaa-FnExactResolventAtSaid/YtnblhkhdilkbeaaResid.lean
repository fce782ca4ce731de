/- Numbers modulo a prime, of the program. -/
import Derived.Test.YtnblhkhdilkbeaaPrimeB
set_option linter.unusedSimpArgs false
set_option linter.unusedVariables false
set_option maxRecDepth 100000
namespace Go.Proofs.Ytnblhkhdilkbeaa
open Go.RowKit

theorem tmod_mod (n p : Int) (hp : 0 < p) : Int.tmod (Int.tmod n p + p) p = n % p := by
  have h1 := Int.lt_tmod_of_pos n hp
  rw [Int.tmod_eq_emod_of_nonneg (by omega), Int.add_emod_right, Int.tmod_def]
  exact Int.sub_mul_emod_self_left n p (Int.tdiv n p)

/-- a number modulo p as a value -/
def resV (n p : Int) : Value := .agg #[.int .i64 n, .int .i64 p]

set_option maxHeartbeats 800000 in
theorem residueOf (n p : Int) (w : World) (hn : -1000000000000 ≤ n ∧ n ≤ 1000000000000) (hp : 1 ≤ p ∧ p ≤ 10007) :
    Calls Try.prog 136 #[.int .i64 n, .int .i64 p] w fun e w' => e = .returned (.agg #[.int .i64 (n % p), .int .i64 p]) ∧ Below w.heap.size w w' := by
  have hb0 : ∀ o, Below w.heap.size w (w.alloc o) := fun o => (Below.refl _ _).alloc (Nat.le_refl _) o
  have hb1 := tmod_bdP (p := n) (d := p) hp.1
  have HY : Hid ((wrap64 (n.tmod p + p)).tmod p = n % p) := Lib.hid (by
    rw [← tmod_mod n p (by omega)]
    congr 1
    generalize n.tmod p = x at *
    exact IntWalk.wrap64_in _ (by omega))
  have hp0 : ¬ p = 0 := by omega
  have hpb : (p == 0) = false := by simpa using hp0
  clear hb1
  go_enter Try.func136, Try.ntmps136
  go_wp2
  refine bodyPost_ret (v := .agg #[.int .i64 ((wrap64 (n.tmod p + p)).tmod p), .int .i64 p]) (by simp [results, Try.results136, go_sem]) rfl ⟨by rw [HY.out], hb0 _⟩

/-- of a zero value's modulus -/
theorem residueOf_zero (n : Int) (w : World) :
    Calls Try.prog 136 #[.int .i64 n, .int .i64 0] w fun e w' => e = .returned (.agg #[.int .i64 0, .int .i64 0]) ∧ Below w.heap.size w w' := by
  have hb0 : ∀ o, Below w.heap.size w (w.alloc o) := fun o => (Below.refl _ _).alloc (Nat.le_refl _) o
  go_enter Try.func136, Try.ntmps136
  go_wp2
  refine bodyPost_ret (v := .agg #[.int .i64 0, .int .i64 0]) (by simp [results, Try.results136, go_sem]) rfl ⟨rfl, hb0 _⟩

set_option maxHeartbeats 800000 in
theorem resTimes (x y p : Int) (w : World) (hx : 0 ≤ x ∧ x ≤ 10007) (hy : 0 ≤ y ∧ y ≤ 10007) (hp : 1 ≤ p ∧ p ≤ 10007) :
    Calls Try.prog 202 #[.agg #[.int .i64 x, .int .i64 p], .agg #[.int .i64 y, .int .i64 p]] w fun e w' => e = .returned (.agg #[.int .i64 (x * y % p), .int .i64 p]) ∧ Below w.heap.size w w' := by
  have hb0 : ∀ o o' o'', Below w.heap.size w (((w.alloc o).alloc o').alloc o'') := fun o o' o'' => (((Below.refl _ _).alloc (Nat.le_refl _) o).alloc (by simp) o').alloc (by simp; omega) o''
  obtain ⟨z, hz⟩ : ∃ z, z = x * y := ⟨_, rfl⟩
  have hzb : 0 ≤ z ∧ z ≤ 100140049 := by
    have h1 := Int.mul_le_mul hx.2 hy.2 hy.1 (by decide)
    rw [hz]
    exact ⟨Int.mul_nonneg hx.1 hy.1, by simpa using h1⟩
  have z1 : IntKind.i64.wrap (x * y) = z := by rw [← hz]; exact IntWalk.i64_in _ (by clear hz; omega)
  have z2 : wrap64 (x * y) = z := by rw [← hz]; exact IntWalk.wrap64_in _ (by clear hz z1; omega)
  rw [← hz]
  clear hz
  go_enter Try.func202, Try.ntmps202
  go_wp2_with fail
  obtain ⟨R, hR⟩ : ∃ R, R = w.heap.size + 1 + 1 := ⟨_, rfl⟩
  refine calls_gen (fun W => Below w.heap.size w W ∧ R < W.heap.size ∧ W.cell? ⟨R, 0, none⟩ = some (.int .i64 0) ∧ W.cell? ⟨R, 1, none⟩ = some (.int .i64 0) ∧ W.frozen? ⟨R, 0, none⟩ = false ∧ W.frozen? ⟨R, 1, none⟩ = false) ⟨hb0 _ _ _, by rw [hR]; simp, by rw [hR]; go_simp, by rw [hR]; go_simp, by rw [hR]; go_simp, by rw [hR]; go_simp⟩ ?_
  rintro W ⟨hB, hz, c0, c1, f0, f1⟩
  rw [← hR]
  have hRw : w.heap.size < R := by omega
  clear hR
  refine (residueOf z p W (by omega) hp).mono ?_
  rintro e w1 ⟨rfl, b1⟩
  replace c0 := b1.keep c0
  replace c1 := b1.keep c1
  replace f0 := b1.keepf hz f0
  replace f1 := b1.keepf hz f1
  replace hB := hB.next b1
  obtain ⟨r, hr⟩ : ∃ r, r = z % p := ⟨_, rfl⟩
  rw [← hr]
  have hf : Below w.heap.size w ((w1.setCell ⟨R, 0, none⟩ (.int .i64 r)).setCell ⟨R, 1, none⟩ (.int .i64 p)) := (hB.setCell (Nat.le_of_lt hRw) _).setCell (Nat.le_of_lt hRw) _
  have v0 : ((w1.setCell ⟨R, 0, none⟩ (.int .i64 r)).setCell ⟨R, 1, none⟩ (.int .i64 p)).cell? ⟨R, 0, none⟩ = some (.int .i64 r) := by
    rw [World.cell?_setCell_other _ _ _ _ (by simp)]; exact World.cell?_setCell_same _ _ _ c0
  have v1 : ((w1.setCell ⟨R, 0, none⟩ (.int .i64 r)).setCell ⟨R, 1, none⟩ (.int .i64 p)).cell? ⟨R, 1, none⟩ = some (.int .i64 p) := World.cell?_setCell_same _ _ _ (by rw [World.cell?_setCell_other _ _ _ _ (by simp)]; exact c1)
  have HR := Lib.hid hr
  clear hr hz b1 z1 z2
  go_wp2
  refine bodyPost_ret (v := .agg #[.int .i64 r, .int .i64 p]) (by simp [results, Try.results202, go_sem, v0, v1]) rfl ⟨by rw [HR.out], hf⟩

set_option maxHeartbeats 800000 in
theorem resPlus (x y p : Int) (w : World) (hx : 0 ≤ x ∧ x ≤ 10007) (hy : 0 ≤ y ∧ y ≤ 10007) (hp : 1 ≤ p ∧ p ≤ 10007) :
    Calls Try.prog 201 #[.agg #[.int .i64 x, .int .i64 p], .agg #[.int .i64 y, .int .i64 p]] w fun e w' => e = .returned (.agg #[.int .i64 ((x + y) % p), .int .i64 p]) ∧ Below w.heap.size w w' := by
  have hb0 : ∀ o o' o'', Below w.heap.size w (((w.alloc o).alloc o').alloc o'') := fun o o' o'' => (((Below.refl _ _).alloc (Nat.le_refl _) o).alloc (by simp) o').alloc (by simp; omega) o''
  obtain ⟨z, hz⟩ : ∃ z, z = x + y := ⟨_, rfl⟩
  have hzb : 0 ≤ z ∧ z ≤ 100140049 := by omega
  have z1 : IntKind.i64.wrap (x + y) = z := by rw [← hz]; exact IntWalk.i64_in _ (by clear hz; omega)
  have z2 : wrap64 (x + y) = z := by rw [← hz]; exact IntWalk.wrap64_in _ (by clear hz z1; omega)
  rw [← hz]
  clear hz
  go_enter Try.func201, Try.ntmps201
  go_wp2_with fail
  obtain ⟨R, hR⟩ : ∃ R, R = w.heap.size + 1 + 1 := ⟨_, rfl⟩
  refine calls_gen (fun W => Below w.heap.size w W ∧ R < W.heap.size ∧ W.cell? ⟨R, 0, none⟩ = some (.int .i64 0) ∧ W.cell? ⟨R, 1, none⟩ = some (.int .i64 0) ∧ W.frozen? ⟨R, 0, none⟩ = false ∧ W.frozen? ⟨R, 1, none⟩ = false) ⟨hb0 _ _ _, by rw [hR]; simp, by rw [hR]; go_simp, by rw [hR]; go_simp, by rw [hR]; go_simp, by rw [hR]; go_simp⟩ ?_
  rintro W ⟨hB, hz, c0, c1, f0, f1⟩
  rw [← hR]
  have hRw : w.heap.size < R := by omega
  clear hR
  refine (residueOf z p W (by omega) hp).mono ?_
  rintro e w1 ⟨rfl, b1⟩
  replace c0 := b1.keep c0
  replace c1 := b1.keep c1
  replace f0 := b1.keepf hz f0
  replace f1 := b1.keepf hz f1
  replace hB := hB.next b1
  obtain ⟨r, hr⟩ : ∃ r, r = z % p := ⟨_, rfl⟩
  rw [← hr]
  have hf : Below w.heap.size w ((w1.setCell ⟨R, 0, none⟩ (.int .i64 r)).setCell ⟨R, 1, none⟩ (.int .i64 p)) := (hB.setCell (Nat.le_of_lt hRw) _).setCell (Nat.le_of_lt hRw) _
  have v0 : ((w1.setCell ⟨R, 0, none⟩ (.int .i64 r)).setCell ⟨R, 1, none⟩ (.int .i64 p)).cell? ⟨R, 0, none⟩ = some (.int .i64 r) := by
    rw [World.cell?_setCell_other _ _ _ _ (by simp)]; exact World.cell?_setCell_same _ _ _ c0
  have v1 : ((w1.setCell ⟨R, 0, none⟩ (.int .i64 r)).setCell ⟨R, 1, none⟩ (.int .i64 p)).cell? ⟨R, 1, none⟩ = some (.int .i64 p) := World.cell?_setCell_same _ _ _ (by rw [World.cell?_setCell_other _ _ _ _ (by simp)]; exact c1)
  have HR := Lib.hid hr
  clear hr hz b1 z1 z2
  go_wp2
  refine bodyPost_ret (v := .agg #[.int .i64 r, .int .i64 p]) (by simp [results, Try.results201, go_sem, v0, v1]) rfl ⟨by rw [HR.out], hf⟩

set_option maxHeartbeats 800000 in
theorem resPlus0 (y p : Int) (w : World) (hy : 0 ≤ y ∧ y ≤ 10007) (hp : 1 ≤ p ∧ p ≤ 10007) :
    Calls Try.prog 201 #[.agg #[.int .i64 0, .int .i64 0], .agg #[.int .i64 y, .int .i64 p]] w fun e w' => e = .returned (.agg #[.int .i64 (y % p), .int .i64 p]) ∧ Below w.heap.size w w' := by
  have hb0 : ∀ o o' o'', Below w.heap.size w (((w.alloc o).alloc o').alloc o'') := fun o o' o'' => (((Below.refl _ _).alloc (Nat.le_refl _) o).alloc (by simp) o').alloc (by simp; omega) o''
  have hm1 : ¬ p < 0 := by omega
  have hm2 : (0 : Int) < p := by omega
  have z2 : wrap64 y = y := IntWalk.wrap64_in _ (by omega)
  have z1 : IntKind.i64.wrap y = y := IntWalk.i64_in _ (by omega)
  go_enter Try.func201, Try.ntmps201
  go_wp2_with fail
  obtain ⟨R, hR⟩ : ∃ R, R = w.heap.size + 1 + 1 := ⟨_, rfl⟩
  refine calls_gen (fun W => Below w.heap.size w W ∧ R < W.heap.size ∧ W.cell? ⟨R, 0, none⟩ = some (.int .i64 0) ∧ W.cell? ⟨R, 1, none⟩ = some (.int .i64 0) ∧ W.frozen? ⟨R, 0, none⟩ = false ∧ W.frozen? ⟨R, 1, none⟩ = false) ⟨hb0 _ _ _, by rw [hR]; simp, by rw [hR]; go_simp, by rw [hR]; go_simp, by rw [hR]; go_simp, by rw [hR]; go_simp⟩ ?_
  rintro W ⟨hB, hz, c0, c1, f0, f1⟩
  rw [← hR]
  have hRw : w.heap.size < R := by omega
  clear hR
  refine (residueOf y p W (by omega) hp).mono ?_
  rintro e w1 ⟨rfl, b1⟩
  replace c0 := b1.keep c0
  replace c1 := b1.keep c1
  replace f0 := b1.keepf hz f0
  replace f1 := b1.keepf hz f1
  replace hB := hB.next b1
  obtain ⟨r, hr⟩ : ∃ r, r = y % p := ⟨_, rfl⟩
  rw [← hr]
  have hf : Below w.heap.size w ((w1.setCell ⟨R, 0, none⟩ (.int .i64 r)).setCell ⟨R, 1, none⟩ (.int .i64 p)) := (hB.setCell (Nat.le_of_lt hRw) _).setCell (Nat.le_of_lt hRw) _
  have v0 : ((w1.setCell ⟨R, 0, none⟩ (.int .i64 r)).setCell ⟨R, 1, none⟩ (.int .i64 p)).cell? ⟨R, 0, none⟩ = some (.int .i64 r) := by
    rw [World.cell?_setCell_other _ _ _ _ (by simp)]; exact World.cell?_setCell_same _ _ _ c0
  have v1 : ((w1.setCell ⟨R, 0, none⟩ (.int .i64 r)).setCell ⟨R, 1, none⟩ (.int .i64 p)).cell? ⟨R, 1, none⟩ = some (.int .i64 p) := World.cell?_setCell_same _ _ _ (by rw [World.cell?_setCell_other _ _ _ _ (by simp)]; exact c1)
  have HR := Lib.hid hr
  clear hr hz b1 z1 z2
  go_wp2
  refine bodyPost_ret (v := .agg #[.int .i64 r, .int .i64 p]) (by simp [results, Try.results201, go_sem, v0, v1]) rfl ⟨by rw [HR.out], hf⟩

end Go.Proofs.Ytnblhkhdilkbeaa
