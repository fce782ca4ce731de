/- Values at places modulo a prime, by the program. -/
import Derived.Test.YtnblhkhdilkbeaaPlr
import Derived.Test.YtnblhkhdilkbeaaCoreB
set_option linter.unusedSimpArgs false
set_option linter.unusedVariables false
set_option maxRecDepth 100000
namespace Go.Proofs.Ytnblhkhdilkbeaa
open Go.RowKit

def plcCode (p s : Int) (xss : List (List Int)) (t : Int) : Int := if grB s xss then (if pr101 p then (if inR t p then 0 else 2) else 2) else 1
theorem plc_ok {p s t : Int} {xss : List (List Int)} (h : plcCode p s xss t = 0) : grB s xss = true ∧ isPr p ∧ 0 ≤ t ∧ t < p := by
  unfold plcCode at h
  cases hg : grB s xss with
  | false => rw [hg] at h; simp at h
  | true =>
    cases hp : pr101 p with
    | false => rw [hg, hp] at h; simp at h
    | true =>
      cases hr : inR t p with
      | false => rw [hg, hp, hr] at h; simp at h
      | true =>
        have h1 := pr101_is hp
        unfold inR at hr
        simp at hr
        exact ⟨rfl, isPr_of h1.1 h1.2, by omega, by omega⟩

set_option maxHeartbeats 800000 in
theorem checkPlace {lo hi : Nat} (p s : Int) (a : Option Addr) (n c : Nat) (xss : List (List Int)) (t : Int) (w : World) (h : RdR lo hi w (.slice a n c) xss) (hn : xss.length = n) :
    Calls Try.prog 63 #[.agg #[.int .i64 s, .slice a n c], .int .i64 p, .int .i64 t] w fun e w' => e = .returned (.int .i64 (plcCode p s xss t)) ∧ Below w.heap.size w w' := by
  have hb0 : ∀ o, Below w.heap.size w (w.alloc o) := fun o => (Below.refl _ _).alloc (Nat.le_refl _) o
  have HN := Lib.hid hn
  clear hn
  obtain ⟨cd, hcd⟩ : ∃ cd, cd = plcCode p s xss t := ⟨_, rfl⟩
  rw [← hcd]
  unfold plcCode at hcd
  have HCD := Lib.hid hcd
  clear hcd
  go_enter Try.func63, Try.ntmps63
  go_wp2_with fail
  refine calls_gen (fun W => Below w.heap.size w W) (hb0 _) ?_
  intro W hB
  refine (implIsGraph s a n c xss W (h.below hB) HN.out).mono ?_
  cases hg : grB s xss with
  | false =>
    rintro e w1 ⟨rfl, b1⟩
    replace hB := hB.next b1
    go_wp2
    go_ret
    exact ⟨by rw [HCD.out, hg]; rfl, hB⟩
  | true =>
    rintro e w1 ⟨rfl, b1⟩
    replace hB := hB.next b1
    clear b1
    go_wp2_with fail
    refine (isPrimeUpTo101 p w1).mono ?_
    cases hp : pr101 p with
    | false =>
      rintro e w2 ⟨rfl, q2⟩
      replace hB := hB.qt q2
      go_wp2
      go_ret
      exact ⟨by rw [HCD.out, hg, hp]; rfl, hB⟩
    | true =>
      rintro e w2 ⟨rfl, q2⟩
      replace hB := hB.qt q2
      clear q2
      cases hr : inR t p with
      | false =>
        go_wp2_with fail
        refine (isIndexV t p false hr _).mono ?_
        rintro e w2 ⟨rfl, q2⟩
        replace hB := hB.qt q2
        go_wp2
        go_ret
        exact ⟨by rw [HCD.out, hg, hp, hr]; rfl, hB⟩
      | true =>
        go_wp2_with fail
        refine (isIndexV t p true hr _).mono ?_
        rintro e w2 ⟨rfl, q2⟩
        replace hB := hB.qt q2
        go_wp2
        go_ret
        exact ⟨by rw [HCD.out, hg, hp, hr]; rfl, hB⟩

set_option maxHeartbeats 1600000 in
theorem detM0 (md : Int) (a : Option Addr) (c : Nat) (w : World) :
    Calls Try.prog 105 #[.iface 74 (.int .i64 md), .slice a 0 c] w fun e w' => e = .returned (.int .i64 1) ∧ Below w.heap.size w w' := by
  go_enter Try.func105, Try.ntmps105
  go_wp2
  have hA1 := (Below.refl w.heap.size w).alloc (Nat.le_refl _) (.cells #[.iface 74 (.int .i64 md), .slice a 0 c, .int .i64 1] 144)
  have hA2 := hA1.alloc hA1.size (.cells #[.func (.func 133) #[] #[], .func (.func 134) #[] #[], .func (.func 135) #[] #[]] 148)
  have HB := Lib.hid hA2
  have z0 : ((w.alloc (.cells #[.iface 74 (.int .i64 md), .slice a 0 c, .int .i64 1] 144)).alloc (.cells #[.func (.func 133) #[] #[], .func (.func 134) #[] #[], .func (.func 135) #[] #[]] 148)).cell? ⟨w.heap.size, 2, none⟩ = some (.int .i64 1) := by go_simp
  generalize ((w.alloc (.cells #[.iface 74 (.int .i64 md), .slice a 0 c, .int .i64 1] 144)).alloc (.cells #[.func (.func 133) #[] #[], .func (.func 134) #[] #[], .func (.func 135) #[] #[]] 148)) = V at HB z0 ⊢
  clear hA1 hA2
  refine wp_loop_rounds 1 ?_
  rw [rounds_succ]
  have hlt0 : ¬ ((0 : Int) < 0) := by omega
  go_wp2
  go_ret
  exact ⟨rfl, HB.out⟩

theorem true_BaH {p : Int} (hp : isPr p) (N : Nat) : BaH p (fun _ => True) N := by
  have hb := hp.le
  refine ⟨fun _ _ _ _ _ _ => trivial, fun R _ k i j _ _ _ => ?_, fun x hx => reg_pr hp x hx⟩
  have h1 := Int.emod_nonneg (mn R k (R i) j) (show p ≠ 0 by omega)
  have h2 := Int.emod_lt_of_pos (mn R k (R i) j) (show 0 < p by omega)
  omega
theorem detMa {p : Int} (hp : isPr p) {L H N : Nat} (hN : N ≤ 20) (a : Option Addr) (c : Nat) (f0 : Nat → Nat → Int) (w : World) (h : OwR L H w (.slice a N c) (tab N f0)) (hL : L ≤ w.heap.size) (hf0 : ∀ i j, i < N → j < N → f0 i j % p = f0 i j) :
    Calls Try.prog 105 #[.iface 74 (.int .i64 p), .slice a N c] w fun e w' => e = .returned (.int .i64 (dt (tp f0 N) (List.range N) % p)) ∧ Below L w w' := by
  have hb := hp.le
  by_cases h0 : 0 < N
  · exact detMd p hb h0 hN a c f0 w h hL (fun _ => True) (true_BaH hp N) trivial hf0 (fun n d x W h1 h2 h3 h4 h5 h6 => mQuo p n d x W hp h1 h2 h3 h4 h5 h6) (fun n W h1 h2 => mRed p n W (by omega) (by omega))
  · obtain rfl : N = 0 := by omega
    refine (detM0 p a c w).mono ?_
    rintro e w' ⟨rfl, b⟩
    refine ⟨?_, b.mono hL⟩
    have : dt (tp f0 0) (List.range 0) = 1 := by simp [tp, dt]
    rw [this, Int.emod_eq_of_lt (by omega) (by omega)]
/-- the value at a place -/
def plV (xss : List (List Int)) (p u : Int) : Int := dt (tp (plM (edgeM (dirE (pairs xss))) p u) (2 * xss.length)) (List.range (2 * xss.length)) % p

theorem keep4 {B : Nat} {W W' : World} (b : Below W.heap.size W W') {x0 x1 x2 x3 : Value} (h0 : W.cell? ⟨B, 0, none⟩ = some x0) (h1 : W.cell? ⟨B, 1, none⟩ = some x1) (h2 : W.cell? ⟨B, 2, none⟩ = some x2) (h3 : W.cell? ⟨B, 3, none⟩ = some x3) :
    W'.cell? ⟨B, 0, none⟩ = some x0 ∧ W'.cell? ⟨B, 1, none⟩ = some x1 ∧ W'.cell? ⟨B, 2, none⟩ = some x2 ∧ W'.cell? ⟨B, 3, none⟩ = some x3 := ⟨b.keep h0, b.keep h1, b.keep h2, b.keep h3⟩
set_option maxHeartbeats 1600000 in
theorem placeValue {lo hi : Nat} (s : Int) (a : Option Addr) (n c : Nat) (xss : List (List Int)) (p u : Int) (w : World) (h : RdR lo hi w (.slice a n c) xss) (hn : xss.length = n) (hg : grB s xss = true) (hp : isPr p) (hu : 0 ≤ u ∧ u < p) :
    Calls Try.prog 64 #[.agg #[.int .i64 s, .slice a n c, .int .i64 p, .int .i64 u]] w fun e w' => e = .returned (.int .i64 (plV xss p u)) ∧ Below w.heap.size w w' := by
  have hb0 := (Below.refl w.heap.size w).alloc (Nat.le_refl _) (.cells #[.int .i64 s, .slice a n c, .int .i64 p, .int .i64 u] 76)
  have hg4 := grB_iff hg
  have HR := Lib.hid (fun W (hB : Below w.heap.size w W) => placeRows s a n c xss p u W (h.below hB) hn hg hp.le hu)
  have HV := Lib.hid (show plV xss p u = dt (tp (plM (edgeM (dirE (pairs xss))) p u) (2 * n)) (List.range (2 * n)) % p by unfold plV; rw [hn])
  rw [HV.out]
  have HD := Lib.hid (fun (L H : Nat) (a2 : Option Addr) (c2 : Nat) (W : World) (ho : OwR L H W (.slice a2 (2 * n) c2) (tab (2 * n) (plM (edgeM (dirE (pairs xss))) p u))) (hL : L ≤ W.heap.size) => detMa hp (by omega) a2 c2 _ W ho hL (fun i j _ _ => Int.emod_emod _ _))
  generalize plM (edgeM (dirE (pairs xss))) p u = A at HR HD HV ⊢
  clear h hn hg hg4 hp hu HV
  go_enter Try.func64, Try.ntmps64
  go_wp2_with fail
  have k0 : (w.alloc (.cells #[.int .i64 s, .slice a n c, .int .i64 p, .int .i64 u] 76)).cell? ⟨w.heap.size, 0, none⟩ = some (.int .i64 s) := by go_simp
  have k1 : (w.alloc (.cells #[.int .i64 s, .slice a n c, .int .i64 p, .int .i64 u] 76)).cell? ⟨w.heap.size, 1, none⟩ = some (.slice a n c) := by go_simp
  have k2 : (w.alloc (.cells #[.int .i64 s, .slice a n c, .int .i64 p, .int .i64 u] 76)).cell? ⟨w.heap.size, 2, none⟩ = some (.int .i64 p) := by go_simp
  have k3 : (w.alloc (.cells #[.int .i64 s, .slice a n c, .int .i64 p, .int .i64 u] 76)).cell? ⟨w.heap.size, 3, none⟩ = some (.int .i64 u) := by go_simp
  generalize w.alloc (.cells #[.int .i64 s, .slice a n c, .int .i64 p, .int .i64 u] 76) = W at hb0 k0 k1 k2 k3 ⊢
  have HRD := Lib.hid (HR.out W.drew (hb0.qt (Qt.refl W).drew))
  have HB0 := Lib.hid hb0
  have d0 : W.drew.cell? ⟨w.heap.size, 0, none⟩ = some (.int .i64 s) := k0
  have d1 : W.drew.cell? ⟨w.heap.size, 1, none⟩ = some (.slice a n c) := k1
  have d2 : W.drew.cell? ⟨w.heap.size, 2, none⟩ = some (.int .i64 p) := k2
  have d3 : W.drew.cell? ⟨w.heap.size, 3, none⟩ = some (.int .i64 u) := k3
  clear hb0 HR
  go_region_held3 (fun W' => W'.cell? ⟨w.heap.size, 0, none⟩ = some (.int .i64 s) ∧ W'.cell? ⟨w.heap.size, 1, none⟩ = some (.slice a n c) ∧ W'.cell? ⟨w.heap.size, 2, none⟩ = some (.int .i64 p) ∧ W'.cell? ⟨w.heap.size, 3, none⟩ = some (.int .i64 u))
    (first | (exact ⟨k0, k1, k2, k3⟩) | (exact S5) | (exact S4) | go_keep)
    (first
      | (go_at_call 106; with_reducible refine HRD.out.mono ?_; rintro e w4 ⟨a4, c4, rfl, o4, b4⟩; have S4 := keep4 b4 d0 d1 d2 d3)
      | (go_at_call 105; with_reducible refine (HD.out W.drew.heap.size _ a4 c4 w4 o4 b4.size).mono ?_; rintro e w5 ⟨rfl, b5⟩; have b45 := b4.trans b5; have S5 := keep4 b45 d0 d1 d2 d3))
  all_goals
    have HF := Lib.hid (HB0.out.next ((Qt.refl W).drew.below.next b45))
    clear S5 S4 b45 b4 b5 o4 HRD HD k0 k1 k2 k3 d0 d1 d2 d3
    go_wp2
    go_ret
    exact ⟨rfl, HF.out⟩
end Go.Proofs.Ytnblhkhdilkbeaa
