/- l09Solve of the model: the table. -/
import Derived.Test.YtnblhkhdilkbeaaGl
import Derived.StillTailTactics
import Derived.Deep.DeepCutAuto
set_option linter.unusedSimpArgs false
set_option linter.unusedVariables false
set_option maxRecDepth 100000
namespace Go.Proofs.Ytnblhkhdilkbeaa
open Go.RowKit

/-- the rows with the unit matrix behind them -/
def augM (E : Nat → Nat → Int) (p u : Int) (N : Nat) : Nat → Nat → Int := fun i j => if j < N then plM E p u i j else if j = N + i then 1 else 0
def augG (E : Nat → Nat → Int) (p u : Int) (i : Nat) : Nat → Int := fun j => ((-u) * E i j) % p
theorem aug_row {E : Nat → Nat → Int} {p u : Int} {N i : Nat} (hp : 2 ≤ p) (hi : i < N) :
    ((rowTo (augG E p u i) (2 * N) N).set i (.int .i64 ((augG E p u i i + 1) % p))).set (N + i) (.int .i64 1) = ((List.range (2 * N)).map (augM E p u N i)).map (Value.int .i64) := by
  apply List.ext_getElem?
  intro j
  rw [List.getElem?_set, List.getElem?_set]
  have hl : (rowTo (augG E p u i) (2 * N) N).length = 2 * N := by simp [rowTo]
  by_cases hj : j < 2 * N
  · have hrt := rowTo_get (augG E p u i) (N := 2 * N) (f := N) hj
    by_cases e1 : N + i = j
    · subst e1
      simp [hl, List.length_set, hj, augM]
      omega
    · rw [if_neg e1]
      by_cases e2 : i = j
      · subst e2
        rw [if_pos rfl, if_pos (by rw [hl]; omega)]
        simp only [List.getElem?_map, List.getElem?_range hj, Option.map_some, augM, if_pos hi]
        congr 2
        unfold augG plM plX
        rw [if_pos rfl, ← cq_iff]
        have : E i i * (-u) = (-u) * E i i := Int.mul_comm _ _
        rw [this]
        exact cq_add (cq_emod p _) (cq_refl p 1)
      · rw [if_neg e2, hrt]
        simp only [List.getElem?_map, List.getElem?_range hj, Option.map_some, augM]
        by_cases e3 : j < N
        · rw [if_pos e3, if_pos e3]
          congr 2
          unfold augG plM plX
          rw [if_neg e2, Int.add_zero, Int.mul_comm]
        · rw [if_neg e3, if_neg e3, if_neg (fun x => e1 x.symm)]
  · rw [if_neg (by omega), if_neg (by omega), List.getElem?_eq_none (by omega), List.getElem?_eq_none (by simp; omega)]

theorem aug_dt (E : Nat → Nat → Int) (p u : Int) (N : Nat) : dt (tp (augM E p u N) N) (List.range N) = dt (tp (plM E p u) N) (List.range N) := by
  unfold tp
  refine dt_congr _ _ (List.range N) (List.range N) (fun i hi c hc => ?_)
  have : c < N := by simpa using hc
  unfold augM; rw [if_pos this]

theorem l09ModS (p x : Int) (w : World) (hx : -1000000000000 ≤ x ∧ x ≤ 1000000000000) (hp : 1 ≤ p ∧ p ≤ 10007) :
    Calls Try.prog 102 #[.int .i64 p, .int .i64 x] w fun e w' => e = .returned (.int .i64 (x % p)) ∧ w' = w := by
  have hb1 := tmod_bdP (p := x) (d := p) hp.1
  have HY : Hid ((wrap64 (x.tmod p + p)).tmod p = x % p) := Lib.hid (by
    rw [← tmod_mod x p (by omega)]
    congr 1
    generalize x.tmod p = y at *
    exact IntWalk.wrap64_in _ (by omega))
  have hp0 : ¬ p = 0 := by omega
  clear hb1
  go_enter Try.func102, Try.ntmps102
  go_wp2
  go_ret
  exact ⟨by rw [← HY.out]; rfl, rfl⟩
theorem mul101 {x y p : Int} (hx : 0 ≤ x ∧ x < p) (hy : 0 ≤ y ∧ y < p) (hp : p ≤ 101) : 0 ≤ x * y ∧ x * y ≤ 10201 := by
  refine ⟨Int.mul_nonneg hx.1 hy.1, ?_⟩
  have := Int.mul_le_mul (show x ≤ 101 by omega) (show y ≤ 101 by omega) (by omega) (by decide)
  simpa using this
/-- the right half of a row -/
theorem GL.half {B0 : Nat} {w0 : World} {g N M c : Nat} {rb cp : Nat → Nat} {f : Nat → Nat → Int} {W : World} (h : GL B0 w0 g N M c rb cp f W) {i : Nat} (hi : i < N) (hM : M = 2 * N) (hN : N ≤ 20) (hr : ∀ j, j < M → I64 (f i j)) :
    RdI 0 W.heap.size W (.slice (some ⟨rb i, N, none⟩) N (cp i - N)) ((List.range N).map (fun j => f i (N + j))) := by
  have h0 := h.at_ i N hi (by omega)
  have hlt := World.block_lt_of_cell? W _ h0
  refine ⟨by simp; omega, fun x hx => ?_, .inr ⟨rb i, N, cp i - N, by simp, by simp; omega, Nat.zero_le _, hlt, fun j hj => ?_⟩⟩
  · obtain ⟨j, hj, rfl⟩ := List.mem_map.1 hx
    have : j < N := by simpa using hj
    exact hr _ (by omega)
  · have hj' : j < N := by simpa using hj
    rw [h.at_ i (N + j) hi (by omega)]
    simp [List.getD, hj']
theorem meas_lt2 {M m : Nat} (h : m < M) : M - (intOf (.int .i64 ((m : Int) + 1))).toNat < M - (intOf (.int .i64 (m : Int))).toNat := by
  show M - ((m : Int) + 1).toNat < M - ((m : Int)).toNat
  omega
theorem meas_lt {M m : Nat} (h : m < M) (h40 : M ≤ 40) : M - (intOf (.int .i64 (wrap64 ((m : Int) + 1)))).toNat < M - (intOf (.int .i64 (m : Int))).toNat := by
  have a2 : wrap64 ((m : Int) + 1) = (m : Int) + 1 := IntWalk.wrap64_in _ (by omega)
  rw [a2]
  show M - ((m : Int) + 1).toNat < M - ((m : Int)).toNat
  clear a2
  omega
set_option maxHeartbeats 20000000 in
theorem l09Solve {lo hi : Nat} (s : Int) (a : Option Addr) (n c : Nat) (xss : List (List Int)) (p u : Int) (w : World) (h : RdR lo hi w (.slice a n c) xss) (hn : xss.length = n) (hg : grB s xss = true) (hp : isPr p) (hu : 0 ≤ u ∧ u < p) :
    Calls Try.prog 62 #[.agg #[.int .i64 s, .slice a n c], .int .i64 p, .int .i64 u] w fun e w' => ∃ (v : Value) (T : Nat → Nat → Int), e = .returned (.tuple #[v, .int .i64 (plV xss p u)]) ∧ Below w.heap.size w w' ∧ (plV xss p u ≠ 0 → ∃ a' c', v = .slice a' (2 * n) c' ∧ OwR w.heap.size w'.heap.size w' (.slice a' (2 * n) c') (tab (2 * n) T) ∧ (∀ e f, e < 2 * n → f < 2 * n → (0 ≤ T e f ∧ T e f < p) ∧ cq p (dt (tp (augM (edgeM (dirE (pairs xss))) p u (2 * n)) (2 * n)) ((List.range (2 * n)).map (fun c => if c = e then 2 * n + f else c))) (plV xss p u * T e f))) := by
  obtain ⟨i0, hi', z0, z1, z2⟩ := info_parts Try.info2
  obtain ⟨j0, hj', y0, y1, y2⟩ := info_parts Try.info25
  have hb0 : ∀ o, Below w.heap.size w (w.alloc o) := fun o => (Below.refl _ _).alloc (Nat.le_refl _) o
  have hg4 := grB_iff hg
  have hple := hp.le
  have HR := Lib.hid (fun W (hB : Below w.heap.size w W) => l09Rows s a n c xss W (h.below hB) hn hg)
  obtain ⟨N, hN⟩ : ∃ N, N = 2 * n := ⟨_, rfl⟩
  have HPV := Lib.hid (show plV xss p u = dt (tp (plM (edgeM (dirE (pairs xss))) p u) N) (List.range N) % p by unfold plV; rw [hn, ← hN])
  rw [← hN] at HR ⊢
  have hN20 : N ≤ 20 := by omega
  have HEB := Lib.hid (fun i j => edgeM_bool (dirE (pairs xss)) i j)
  generalize edgeM (dirE (pairs xss)) = E at HR HEB HPV ⊢
  generalize plV xss p u = D at HPV ⊢
  obtain ⟨M, hM⟩ : ∃ M, M = 2 * N := ⟨_, rfl⟩
  have hm2 : IntKind.i64.wrap (2 * (n : Int)) = (N : Int) := by rw [hN]; rw [IntWalk.i64_in _ (by omega)]; omega
  have hm2' : wrap64 (2 * (n : Int)) = (N : Int) := by rw [hN]; rw [IntWalk.wrap64_in _ (by omega)]; omega
  have hp1 : Int.tmod 1 p = 1 := by rw [Int.tmod_eq_emod_of_nonneg (by decide)]; exact Int.emod_eq_of_lt (by decide) (by omega)
  have hp2 : (1 : Int) % p = 1 := Int.emod_eq_of_lt (by decide) (by omega)
  have hp0 : ¬ p = 0 := by omega
  have hpb : (p == 0) = false := by simpa using hp0
  have HNM := Lib.hid (⟨hN20, hM, hple, hu⟩ : N ≤ 20 ∧ M = 2 * N ∧ _ ∧ _)
  have HP := Lib.hid hp
  have HTL := Lib.hid (show (tabR N M (augM E p u N)).length = N from tabR_len _ _ _)
  clear h hn hg hg4 hp hu hN hM
  go_enter Try.func62, Try.ntmps62
  go_wp2_with fail
  have k0 : (w.alloc (.cells #[.int .i64 s, .slice a n c] 30)).cell? ⟨w.heap.size, 0, none⟩ = some (.int .i64 s) := by go_simp
  have k1 : (w.alloc (.cells #[.int .i64 s, .slice a n c] 30)).cell? ⟨w.heap.size, 1, none⟩ = some (.slice a n c) := by go_simp
  have hB := hb0 (.cells #[.int .i64 s, .slice a n c] 30)
  have hzW : w.heap.size < (w.alloc (.cells #[.int .i64 s, .slice a n c] 30)).heap.size := by simp
  generalize w.alloc (.cells #[.int .i64 s, .slice a n c] 30) = W at hB k0 k1 hzW ⊢
  have HRD := Lib.hid (HR.out W.drew (hB.qt (Qt.refl W).drew))
  have HB0 := Lib.hid (⟨hB, hzW⟩ : _ ∧ _)
  clear hB HR hb0 hzW
  go_region_held3 (fun W' => W'.cell? ⟨w.heap.size, 0, none⟩ = some (.int .i64 s) ∧ W'.cell? ⟨w.heap.size, 1, none⟩ = some (.slice a n c))
    (first | (exact ⟨k0, k1⟩) | (go_split_ands; exact ⟨b4.keep (by assumption), b4.keep (by assumption)⟩) | go_keep)
    (first
      | (go_at_call 101; with_reducible refine HRD.out.mono ?_; rintro e w4 ⟨a4, c4, rfl, o4, b4⟩))
  all_goals
    have HW4 := Lib.hid (⟨HB0.out.1.next ((Qt.refl W).drew.below.next b4), Nat.lt_of_lt_of_le HB0.out.2 b4.size⟩ : Below w.heap.size w w4 ∧ w.heap.size < w4.heap.size)
    have HE4 := Lib.hid (o4.rd)
    clear k0 k1 HRD HB0 b4 o4 hm2 hm2' hp1 hp2
    go_wp2
    have hl0 := World.ownsRow_lit (base := w4.heap.size) (e := 25) (size := 1) w4 #[] 0 (Nat.le_refl _) (by unfold maxLen; omega) rfl
    have hP0 : OwP w4.heap.size w.heap.size (w4.alloc (.cells #[] 25)) w4.heap.size 0 0 [] [] := OwP.empty hl0 (by have := HW4.out.2; omega)
    have hbA := (Below.refl w4.heap.size w4).alloc (Nat.le_refl _) (.cells #[] 25)
    have HP0 := Lib.hid (⟨hP0, hbA⟩ : _ ∧ Below w4.heap.size w4 (w4.alloc (.cells #[] 25)))
    generalize w4.alloc (.cells #[] 25) = V at HP0 ⊢
    obtain ⟨L, hL⟩ : ∃ L, L = w4.heap.size := ⟨_, rfl⟩
    have HLL := Lib.hid hL
    have hwL : w.heap.size < L := by rw [hL]; exact HW4.out.2
    rw [← hL] at HP0 ⊢
    clear hl0 hP0 hbA hL
    go_loopw [12, 11] (fun y v wr => ∃ (k : Nat) (rvs : List Value) (g cc : Nat), k ≤ N ∧ y = .int .i64 k ∧ v = .slice (some ⟨g, 0, none⟩) k cc ∧ OwP L w.heap.size wr g k cc rvs ((tabR N M (augM E p u N)).take k) ∧ Below L w4 wr) (fun y _ _ => N - (intOf y).toNat)
    case atStart => exact ⟨0, [], L, 0, Nat.zero_le _, rfl, rfl, HP0.out⟩
    case round =>
      clear HP0
      obtain ⟨k, rvs, g, cc, hk, rfl, rfl, hP, hB⟩ := hrel
      obtain ⟨U, rfl⟩ : ∃ U, U = wr := ⟨_, rfl⟩
      by_cases hlt : k < N
      · have HST := Lib.hid (tabR_take (M := M) (augM E p u N) hlt)
        have hLU : L ≤ U.heap.size := by have := hP.lt; omega
        have HPB := Lib.hid (⟨hP, hB, hLU⟩ : _ ∧ _ ∧ _)
        have hM40 : M = 2 * N ∧ N ≤ 20 := ⟨HNM.out.2.1, HNM.out.1⟩
        have hmm2 : wrap64 (2 * (N : Int)) = (M : Int) := by rw [IntWalk.wrap64_in _ (by omega)]; omega
        have hmm1 : IntKind.i64.wrap (2 * (N : Int)) = (M : Int) := by clear hmm2; rw [IntWalk.i64_in _ (by omega)]; omega
        clear hP hB hM40
        go_wp2_with (at_make; refine wpList_make_full _ rfl _ _ 25 rfl U.heap.size 2 i0 (.int .i64 0) 1 Try.underlying25 hi' z0 z1 _ _ _ _ M rfl rfl rfl rfl ?c1 ?c2 ?c3 ?_)
        case c1 => clear hmm1 hmm2; rw [z2]; have := HNM.out.2.1; have := HNM.out.1; omega
        case c2 => clear hmm1 hmm2; unfold maxLen; have := HNM.out.2.1; have := HNM.out.1; omega
        case c3 => exact Nat.le_refl _
        intro w1 hown hgr
        rw [rowTo_zero (augG E p u k) M] at hown
        have hb1 : Below U.heap.size U w1 := (Below.refl _ _).grown hgr (Nat.le_refl _) (fun j hj => by cases hj)
        have HW2 := Lib.hid (⟨hown, hb1⟩ : _ ∧ _)
        clear hown hb1 hgr hmm1 hmm2
        obtain ⟨R, hR⟩ : ∃ R, R = U.heap.size := ⟨_, rfl⟩
        have HRR := Lib.hid hR
        rw [← hR] at HW2 ⊢
        have hLR : L ≤ R := by omega
        clear hR
        go_wp2
        go_loopw [14] (fun i wr' => ∃ f : Nat, f ≤ N ∧ i = .int .i64 f ∧ wr'.ownsRow R 2 1 (.slice (some ⟨R, 0, none⟩) M M) M (rowTo (augG E p u k) M f) ∧ Below R U wr') (fun i _ => N - (intOf i).toNat)
        case atStart => exact ⟨0, Nat.zero_le _, rfl, HW2.out⟩
        case round =>
          rename_i hrel
          clear HW2
          obtain ⟨f, hf, rfl, hown, hb⟩ := hrel
          by_cases hlf : f < N
          · have hb4 : Below w4.heap.size w4 wr := by rw [← HLL.out]; exact HPB.out.2.1.trans (hb.mono hLR)
            obtain ⟨eb, eoff, eb2, eoff2, ecp, rfl, r1, r2⟩ := (HE4.out.below hb4).ent hlt hlf
            have HN2 := HNM.out
            have hfM : f < M := by omega
            have hmod : -101 ≤ (-u) * E k f ∧ (-u) * E k f ≤ 101 := by
              rcases HEB.out k f with e0 | e0 <;> rw [e0] <;> simp <;> omega
            have hlm := Lib.hid (l09Mod p ((-u) * E k f) wr (by omega) (by omega))
            have hgk : (-u) * E k f % p = augG E p u k f := rfl
            rw [hgk] at hlm
            have HG1 := Lib.hid (show I64 (augG E p u k f) by
              have h1 := Int.emod_nonneg ((-u) * E k f) (show p ≠ 0 by omega)
              have h2 := Int.emod_lt_of_pos ((-u) * E k f) (show 0 < p by omega)
              unfold augG I64; omega)
            obtain ⟨x, hx⟩ : ∃ x, x = (-u) * E k f := ⟨_, rfl⟩
            rw [← hx] at hlm hmod
            have m0 : IntKind.i64.wrap (-u) = -u := IntWalk.i64_in _ (by clear hx; omega)
            have m0' : wrap64 (-u) = -u := IntWalk.wrap64_in _ (by clear hx m0; omega)
            have m1 : IntKind.i64.wrap ((-u) * E k f) = x := by rw [← hx]; exact IntWalk.i64_in _ (by clear hx m0 m0'; omega)
            have m2 : wrap64 ((-u) * E k f) = x := by rw [← hx]; exact IntWalk.wrap64_in _ (by clear hx m0 m0' m1; omega)
            have m3 : IntKind.i64.wrap (-(u * E k f)) = x := by rw [← Int.neg_mul, ← hx]; exact IntWalk.i64_in _ (by clear hx m0 m0' m1 m2; omega)
            have m4 : wrap64 (-(u * E k f)) = x := by rw [← Int.neg_mul, ← hx]; exact IntWalk.wrap64_in _ (by clear hx m0 m0' m1 m2 m3; omega)
            have m5 : -(u * E k f) = x := by rw [← Int.neg_mul, ← hx]
            have hput := rowTo_put (augG E p u k) hfM (augG E p u k f) rfl
            have HPT := Lib.hid hput
            have HQ := Lib.hid (⟨hown, hb⟩ : _ ∧ _)
            have hkI : (k : Int) < (N : Int) := by omega
            have hk0 : (0 : Int) ≤ (k : Int) := by omega
            have hfI : (f : Int) < (N : Int) := by omega
            have hfMI : (f : Int) < (M : Int) := by omega
            have hf0 : (0 : Int) ≤ (f : Int) := by omega
            generalize augG E p u k f = gx at hlm HPT HG1
            generalize E k f = ekf at r2 m1 m2 m3 m4 m5
            clear hx hmod hgk HN2 hb4 hput hown hb
            go_wp2_with fail
            refine hlm.out.mono ?_
            clear hlm r1 r2 m0 m0' m1 m2 m3 m4 m5
            rintro e w5 ⟨rfl, q5⟩
            obtain ⟨hown, hb⟩ := HQ.out
            replace hown := ownsRow_chg hown (q5.below.chg 0 0) (fun _ _ => .inr (Nat.zero_le _))
            replace hb := hb.trans (q5.below.mono (by have := hb.size; rw [← HRR.out] at this; exact this))
            have h3 := (hown.cellAt f (by omega)).trans (rowTo_get (augG E p u k) hfM)
            have h4 := hown.frozenAt f
            have hsto := (hown.stored f (.int .i64 gx)).1
            rw [HPT.out] at hsto
            have HF := Lib.hid (⟨hsto, hb.setCell (p := ⟨R, f, none⟩) (Nat.le_refl _) _⟩ : _ ∧ Below R U (w5.setCell ⟨R, f, none⟩ (.int .i64 gx)))
            clear hsto hown hb q5 HPT HQ
            go_wp2
            go_roundw
            case rel => exact ⟨f+1, by omega, by go_num, HF.out⟩
            case measure => simp [intOf]; omega
          · have HN2 := HNM.out
            have hown' : wr.ownsRow R 2 1 (.slice (some ⟨R, 0, none⟩) M M) M (rowTo (augG E p u k) M N) := by rw [show N = f by omega]; exact hown
            have hkM : k < M := by omega
            have hNk : N + k < M := by omega
            have h3 := (hown'.cellAt k (by omega)).trans (rowTo_get (augG E p u k) (N := M) (f := N) hkM)
            rw [if_pos hlt] at h3
            have h4 := hown'.frozenAt k
            have hgb : 0 ≤ augG E p u k k ∧ augG E p u k k < p := ⟨Int.emod_nonneg _ (by omega), Int.emod_lt_of_pos _ (by omega)⟩
            have haug := aug_row (E := E) (p := p) (u := u) (N := N) hple.1 hlt
            obtain ⟨y, hy⟩ : ∃ y, y = (augG E p u k k + 1) % p := ⟨_, rfl⟩
            rw [← hy, ← HN2.2.1] at haug
            have hyb : 0 ≤ y ∧ y < p := by rw [hy]; exact ⟨Int.emod_nonneg _ (by omega), Int.emod_lt_of_pos _ (by omega)⟩
            have hst1 := (hown'.stored k (.int .i64 y)).1
            have hget2 : ((rowTo (augG E p u k) M N).set k (.int .i64 y))[N + k]? = some (.int .i64 0) := by
              rw [List.getElem?_set_ne (by omega), rowTo_get (augG E p u k) (N := M) (f := N) hNk, if_neg (by omega)]
            have d3 := (hst1.cellAt (N + k) (by omega)).trans hget2
            have d4 := hst1.frozenAt (N + k)
            have hst2 := (hst1.stored (N + k) (.int .i64 1)).1
            rw [haug] at hst2
            have hbs : Below R U ((wr.setCell ⟨R, k, none⟩ (.int .i64 y)).setCell ⟨R, N + k, none⟩ (.int .i64 1)) := (hb.setCell (p := ⟨R, k, none⟩) (Nat.le_refl _) _).setCell (p := ⟨R, N + k, none⟩) (Nat.le_refl _) _
            have HI64 := Lib.hid (show ∀ x ∈ (List.range M).map (augM E p u N k), I64 x from fun x hx => by
              obtain ⟨j, _, rfl⟩ := List.mem_map.1 hx
              unfold augM plM
              split
              · have h1 := Int.emod_nonneg (plX E u k j) (show p ≠ 0 by omega)
                have h2 := Int.emod_lt_of_pos (plX E u k j) (show 0 < p by omega)
                unfold I64; omega
              · split <;> (unfold I64; omega))
            have HW3 := Lib.hid (⟨hst2, hbs⟩ : _ ∧ _)
            have hkI : (k : Int) < (M : Int) := by omega
            have hk0 : (0 : Int) ≤ (k : Int) := by omega
            have hNkI : (N : Int) + (k : Int) < (M : Int) := by omega
            have hNk0 : (0 : Int) ≤ (N : Int) + (k : Int) := by omega
            have hNkn : ((N : Int) + (k : Int)).toNat = N + k := by omega
            have hM80 : M ≤ 40 := by omega
            have m0 : IntKind.i64.wrap ((N : Int) + (k : Int)) = (N : Int) + (k : Int) := IntWalk.i64_in _ (by omega)
            have m0' : wrap64 ((N : Int) + (k : Int)) = (N : Int) + (k : Int) := IntWalk.wrap64_in _ (by clear m0; omega)
            generalize augG E p u k k = gx at h3 hgb hy
            have m1 : IntKind.i64.wrap (gx + 1) = gx + 1 := IntWalk.i64_in _ (by clear m0 m0' hy; omega)
            have m2 : wrap64 (gx + 1) = gx + 1 := IntWalk.wrap64_in _ (by clear m0 m0' hy m1; omega)
            have m3 : Int.tmod (gx + 1) p = y := by rw [hy]; exact Int.tmod_eq_emod_of_nonneg (by clear m0 m0' hy m1 m2; omega)
            have m4 : (gx + 1) % p = y := hy.symm
            have m5 : IntKind.i64.wrap y = y := IntWalk.i64_in _ (by clear m0 m0' hy m1 m2 m3 m4; omega)
            have m6 : wrap64 y = y := IntWalk.wrap64_in _ (by clear m0 m0' hy m1 m2 m3 m4 m5; omega)
            have hgx0 : 0 ≤ gx + 1 := by clear m0 m0' hy m1 m2 m3 m4 m5 m6; omega
            clear hy hyb hgb haug hst1 hst2 hget2 hbs hown hown' hb HN2
            obtain ⟨hown, hb1'⟩ := HW3.out
            obtain ⟨w2, hw2⟩ : ∃ x, x = (wr.setCell ⟨R, k, none⟩ (.int .i64 y)).setCell ⟨R, N + k, none⟩ (.int .i64 1) := ⟨_, rfl⟩
            have hsz2 : w2.heap.size = wr.heap.size := by rw [hw2]; exact (World.size_setCell _ _ _).trans (World.size_setCell _ _ _)
            rw [← hw2] at hown hb1'
            have hb1 : Below U.heap.size U w2 := by rw [HRR.out] at hb1'; exact hb1'
            have hO : OwI R w2.heap.size w2 (.slice (some ⟨R, 0, none⟩) M M) ((List.range M).map (augM E p u N k)) := OwI.mk hown (by clear m0 m0' m1 m2 m3 m4 m5 m6; omega) HI64.out
            clear HW3 hb1'
            obtain ⟨hP, hB, hLU'⟩ := HPB.out
            have hownV := (hP.below hb1).out.alloc (.cells #[.slice (some ⟨R, 0, none⟩) M M] 25)
            have hnews := news_one w2 25 (.slice (some ⟨R, 0, none⟩) M M)
            have hszw := hb1.size
            have hlt2 : L ≤ g ∧ g < U.heap.size := hP.lt
            have hO2 : OwI U.heap.size wr.heap.size w2 (.slice (some ⟨R, 0, none⟩) M M) ((List.range M).map (augM E p u N k)) := by rw [← hsz2, ← HRR.out]; exact hO
            have HP := Lib.hid (⟨hO2, hP, hB, hb1⟩ : _ ∧ _ ∧ _ ∧ _)
            clear hO2 hO hP hB hown hb1
            rw [hsz2] at hnews hszw
            clear hsz2
            subst hw2
            go_wp2_with (at_builtin; refine wpList_append_lies _ rfl _ _ 22 rfl L 25 j0 (.slice none 0 0) 1 24 Try.underlying22 hj' y0 y1 y2 rfl (by decide) _ _ _ rfl hownV ⟨wr.heap.size, 0, none⟩ 1 1 [.slice (some ⟨R, 0, none⟩) M M] rfl rfl ?d1 ?d2 (by decide) ?d3 ?d4 ?d5 _ rfl ?_)
            case d1 => exact hnews
            case d2 => first | (intro u hu; simp at hu; subst hu; rfl) | rfl | simp
            case d3 => unfold maxLen; clear m0 m0' m1 m2 m3 m4 m5 m6; omega
            case d4 => clear m0 m0' m1 m2 m3 m4 m5 m6; omega
            case d5 => clear m0 m0' m1 m2 m3 m4 m5 m6; simp; omega
            intro g2 c3 w9 hown3 hgr hlie hlt3
            clear m0 m0' m1 m2 m3 m4 m5 m6
            obtain ⟨hO, hP, hB, hb⟩ := HP.out
            have hV3 := hP.snocF (hi := wr.heap.size) (by omega) hb hO hown3 hgr (hlie.imp id (fun e => by rw [e]; simp))
            have hb3 : Chg g (g + 1) U w9 := snocC hb hgr
            rw [← HST.out] at hV3
            have hB3 : Below L w4 w9 := hB.trans (hb3.below (by omega) (by omega))
            have HF := Lib.hid (⟨hV3, hB3⟩ : _ ∧ _)
            clear hO hP hB hb hV3 hb3 hB3 hown3 hgr hlie hnews hownV d3 d4 h3 h4
            go_wp2
            go_roundw
            case rel => exact ⟨k+1, _, g2, c3, by omega, by go_num, rfl, HF.out⟩
            case measure => simp [intOf]; omega
      · have hkN : k = N := by omega
        rw [hkN] at hP
        rw [List.take_of_length_le (by rw [HTL.out]; exact Nat.le_refl _)] at hP
        have hO := hP.owr (by omega)
        have HN2 := HNM.out
        have hltI : ¬ (k : Int) < (N : Int) := by omega
        have HBU := Lib.hid hB
        by_cases h0 : 0 < N
        · obtain ⟨g', rb, cp, hge, hcap, hg1, hg2, b1, b2, b3, b4, b5⟩ := OwR.blocksR hO h0 (by omega)
          have hgg : g = g' := by simpa using hge
          subst hgg
          have HG0 := Lib.hid (show GL L w4 g N M cc rb cp (augM E p u N) U from ⟨b1, b2, fun i j hi hj => (b3 i j hi hj).1, fun i j hi hj => (b3 i j hi hj).2, b4, fun i hi => ⟨(b5 i hi).1, (b5 i hi).2.1, (b5 i hi).2.2.2⟩, hg1, hB⟩)
          have HA0 := Lib.hid (gi_start (p := p) (A := augM E p u N) (N := N) (M := M) hple.1 (fun i j hi hj => by
            unfold augM plM
            split
            · exact ⟨Int.emod_nonneg _ (by omega), Int.emod_lt_of_pos _ (by omega)⟩
            · split <;> omega))
          have hcapM : N ≤ cc := hcap
          clear b1 b2 b3 b4 b5 hP hB hO hg1 hg2 hge HN2 hcap
          go_wp2
          clear hltI hkN hk hlt
          go_loopw [15, 10] (fun i dv wr => ∃ (q : Nat) (rb cp : Nat → Nat) (f : Nat → Nat → Int) (d : Int), q ≤ N ∧ i = .int .i64 q ∧ dv = .int .i64 d ∧ GL L w4 g N M cc rb cp f wr ∧ Hid (GaI p (augM E p u N) f N M q d)) (fun i _ _ => N - (intOf i).toNat)
          case atStart => exact ⟨0, rb, cp, augM E p u N, 1, Nat.zero_le _, rfl, rfl, HG0.out, HA0⟩
          case round =>
            rename_i hrel
            clear HG0 HA0
            obtain ⟨q, rb, cp, f, d, hq, rfl, rfl, hG, HA⟩ := hrel
            obtain ⟨V, rfl⟩ : ∃ V, V = wr := ⟨_, rfl⟩
            by_cases hlt : q < N
            · have hqI : (q : Int) < (N : Int) := by omega
              have HGV := Lib.hid hG
              clear hG
              go_wp2
              go_loopw [16] (fun i wr => ∃ r : Nat, q ≤ r ∧ r ≤ N ∧ i = .int .i64 r ∧ Qt V wr ∧ Hid (∀ l, q ≤ l → l < r → f l q = 0)) (fun i _ => N - (intOf i).toNat)
              case atStart => exact ⟨q, Nat.le_refl _, by omega, rfl, Qt.refl _, Lib.hid (fun l h1 h2 => by omega)⟩
              case round =>
                rename_i hrel
                obtain ⟨r, hr1, hr2, rfl, hqt, HZ⟩ := hrel
                by_cases hrl : r < N
                · have hrI : (r : Int) < (N : Int) := by omega
                  have hr0 : (0 : Int) ≤ (r : Int) := by omega
                  have hq0 : (0 : Int) ≤ (q : Int) := by omega
                  have hqM : (q : Int) < (M : Int) := by have := HNM.out.2.1; omega
                  have hG := HGV.out.qt hqt
                  have r1 := hG.hd r hrl
                  have r2 := hG.at_ r q hrl (by have := HNM.out.2.1; omega)
                  by_cases hz : f r q = 0
                  · rw [hz] at r2
                    have HZ2 := Lib.hid (show ∀ l, q ≤ l → l < r + 1 → f l q = 0 from fun l h1 h2 => by
                      by_cases e : l = r
                      · subst e; exact hz
                      · exact HZ.out l h1 (by omega))
                    clear hz hG HZ
                    go_wp2
                    go_roundw
                    case rel => exact ⟨r+1, by omega, by omega, by go_num, hqt, HZ2⟩
                    case measure => simp [intOf]; omega
                  · have hnb : (f r q == 0) = false := by simpa using hz
                    have HNZ := Lib.hid hz
                    have HGW := Lib.hid hG
                    have hrN : ((r : Int) == (N : Int)) = false := by simp; omega
                    clear hz hG HZ hqt
                    go_upto_if 109 with (fail)
                    go_cut [10] (fun dv wx => ∃ (rb2 cp2 : Nat → Nat) (f2 : Nat → Nat → Int) (d2 : Int), dv = .int .i64 d2 ∧ GL L w4 g N M cc rb2 cp2 f2 wx ∧ Hid (GaI p (augM E p u N) f2 N M q d2) ∧ Hid (f2 q q ≠ 0))
                    case first =>
                      clear r1 r2
                      by_cases hrq : r = q
                      · have hrqb : ((r : Int) != (q : Int)) = false := by simp; omega
                        have HZZ := Lib.hid (show f q q ≠ 0 by have := HNZ.out; rw [hrq] at this; exact this)
                        clear hrq
                        go_wp2
                        go_meet
                        exact ⟨rb, cp, f, d, rfl, HGW.out, HA, HZZ⟩
                      · have hrqb : ((r : Int) != (q : Int)) = true := by simp; omega
                        have hG := HGW.out
                        have r1 := hG.hd r hrl
                        have r2 := hG.hd q hlt
                        have r3 := hG.hf r hrl
                        have r4 := hG.hf q hlt
                        have hS := hG.swap hrl hlt hrq
                        have hI := gi_swap hple.1 HA.out (show q < r by omega) hrl
                        have hn0 : swp f r q q q ≠ 0 := by
                          have := HNZ.out
                          unfold swp; rw [if_neg (fun e => hrq e.symm), if_pos rfl]; exact this
                        have hdr := HA.out.drg
                        have m1 : IntKind.i64.wrap (-d) = -d := IntWalk.i64_in _ (by omega)
                        have m2 : wrap64 (-d) = -d := IntWalk.wrap64_in _ (by clear m1; omega)
                        have HLM := Lib.hid (fun W => l09ModS p (-d) W (by clear m1 m2; omega) (by clear m1 m2; omega))
                        have HSW := Lib.hid (⟨hS, hI, hn0⟩ : _ ∧ _ ∧ _)
                        have r2' : (wr.setCell ⟨g, r, none⟩ (.slice (some ⟨rb q, 0, none⟩) M (cp q))).cell? ⟨g, q, none⟩ = _ := cell_other r2 (.inr (fun e => hrq e.symm))
                        have r4' : (wr.setCell ⟨g, r, none⟩ (.slice (some ⟨rb q, 0, none⟩) M (cp q))).frozen? ⟨g, q, none⟩ = _ := (World.frozen?_setCell _ _ _ _).trans r4
                        clear hS hI hn0 hdr hG HGW HNZ HA hrq
                        go_wp2_with fail
                        clear r1 r2 r3 r4 r2' r4'
                        refine (HLM.out _).mono ?_
                        rintro e w5 ⟨rfl, rfl⟩
                        clear m1 m2 HLM
                        go_wp2
                        go_meet
                        exact ⟨_, _, _, _, rfl, HSW.out.1, Lib.hid HSW.out.2.1, Lib.hid HSW.out.2.2⟩
                    case rest =>
                      clear r1 r2 HGW HNZ HA hrN hrI hr0 hq0 hrl hr1 hr2
                      obtain ⟨rb, cp, f, d, rfl, hG, HA, HNZ⟩ := hcut
                      have HGW := Lib.hid hG
                      clear hG
                      have hqM : q < M := by have := HNM.out.2.1; omega
                      have hqM' : (q : Int) < (M : Int) := by omega
                      have HM40 : Hid (M ≤ 40) := Lib.hid (by have := HNM.out.2.1; omega)
                      have HVR := Lib.hid (⟨HA.out.rng q q hlt hqM, HA.out.drg, hple⟩ : (0 ≤ f q q ∧ f q q < p) ∧ (0 ≤ d ∧ d < p) ∧ 2 ≤ p ∧ p ≤ 101)
                      have HXR : 1 ≤ f q q ∧ f q q < p := by have h1 := HVR.out.1; have h2 := HNZ.out; omega
                      have HIV := Lib.hid (fun W => l09Inverse p (f q q) W HP.out HXR)
                      have HIS := Lib.hid (invM_is HP.out HXR)
                      generalize invM p (f q q) = iv at HIV HIS
                      obtain ⟨hAn, hMr⟩ := gi_next hple.1 HA.out hlt hqM HIS.out.1
                      have HAN := Lib.hid hAn
                      have HMR := Lib.hid hMr
                      clear hAn hMr
                      obtain ⟨z, hz⟩ : ∃ z, z = d * f q q := ⟨_, rfl⟩
                      have hzb : 0 ≤ z ∧ z ≤ 10201 := by
                        have h1 := HVR.out
                        rw [hz]
                        refine ⟨Int.mul_nonneg (by omega) (by omega), ?_⟩
                        have := Int.mul_le_mul (show d ≤ 101 by omega) (show f q q ≤ 101 by omega) (by omega) (by decide)
                        simpa using this
                      have m1 : IntKind.i64.wrap (d * f q q) = z := by rw [← hz]; exact IntWalk.i64_in _ (by clear hz; omega)
                      have m2 : wrap64 (d * f q q) = z := by rw [← hz]; exact IntWalk.wrap64_in _ (by clear hz m1; omega)
                      rw [← hz] at HAN
                      have hr := Int.tmod_eq_emod_of_nonneg (a := z) (b := p) hzb.1
                      have hr0 := Int.emod_nonneg z hp0
                      have hr1 := Int.emod_lt_of_pos z (show 0 < p by omega)
                      generalize hzr : z % p = R at HAN hr hr0 hr1
                      have m3 : IntKind.i64.wrap (Int.tmod z p) = R := by rw [hr]; exact IntWalk.i64_in _ (by clear hz m1 m2 hzr hr; omega)
                      have m4 : wrap64 (Int.tmod z p) = R := by rw [hr]; exact IntWalk.wrap64_in _ (by clear hz m1 m2 m3 hzr hr; omega)
                      have r1 := HGW.out.hd q hlt
                      have r2 := HGW.out.at_ q q hlt hqM
                      have HR27 := Lib.hid hr
                      clear hz hzb hr hr0 hr1 hzr HXR
                      go_wp2_with fail
                      refine (HIV.out _).mono ?_
                      rintro e w5 ⟨rfl, q5⟩
                      have HG5 := Lib.hid (HGW.out.qt q5)
                      clear r1 r2 q5 HGW HIV m1 m2 m3 m4
                      go_wp2
                      go_loopw [19] (fun i wr => ∃ m : Nat, m ≤ M ∧ i = .int .i64 m ∧ GL L w4 g N M cc rb cp (mulC f iv p q m) wr) (fun i _ => M - (intOf i).toNat)
                      case atStart => exact ⟨0, Nat.zero_le _, rfl, by rw [mulC_0]; exact HG5.out⟩
                      case round =>
                        rename_i hrel
                        clear HG5
                        obtain ⟨m, hm, rfl, hG⟩ := hrel
                        have n2 : wrap64 (2 * (N : Int)) = (M : Int) := by have := HNM.out; rw [IntWalk.wrap64_in _ (by omega)]; omega
                        have n1 : IntKind.i64.wrap (2 * (N : Int)) = (M : Int) := by have := HNM.out; clear n2; rw [IntWalk.i64_in _ (by omega)]; omega
                        by_cases hmm : m < M
                        · have hmI : (m : Int) < (M : Int) := by clear n1 n2; omega
                          have r1 := hG.hd q hlt
                          have r2 := hG.at_ q m hlt hmm
                          have r3 := hG.fz q m hlt hmm
                          rw [mulC_at] at r2
                          obtain ⟨z, hz⟩ : ∃ z, z = f q m * iv := ⟨_, rfl⟩
                          have HFM := HA.out.rng q m hlt hmm
                          have hzb : 0 ≤ z ∧ z ≤ 10201 := by
                            have h1 := HIS.out
                            rw [hz]
                            refine ⟨Int.mul_nonneg (by omega) (by clear n1 n2; omega), ?_⟩
                            have := Int.mul_le_mul (show f q m ≤ 101 by clear n1 n2; omega) (show iv ≤ 101 by clear n1 n2; omega) (by clear n1 n2; omega) (by decide)
                            simpa using this
                          have m1 : IntKind.i64.wrap (f q m * iv) = z := by rw [← hz]; exact IntWalk.i64_in _ (by clear hz n1 n2; omega)
                          have m2 : wrap64 (f q m * iv) = z := by rw [← hz]; exact IntWalk.wrap64_in _ (by clear hz m1 n1 n2; omega)
                          have hr := Int.tmod_eq_emod_of_nonneg (a := z) (b := p) hzb.1
                          have hNX := hG.num hlt hmm (f q m * iv % p)
                          rw [mulC_put, ← hz, ← hr] at hNX
                          have HNX := Lib.hid hNX
                          clear hNX
                          have hm0 : (0 : Int) ≤ (m : Int) := by clear m1 m2 n1 n2; omega
                          clear hz hzb hr HFM hG
                          go_wp2
                          clear m1 m2 n1 n2
                          have a2 : wrap64 ((m : Int) + 1) = (m : Int) + 1 := IntWalk.wrap64_in _ (by have := HM40.out; omega)
                          go_roundw
                          case rel => exact ⟨m+1, by clear a2; omega, by rw [a2]; rfl, HNX.out⟩
                          case measure => exact meas_lt hmm HM40.out
                        · obtain rfl : M = m := by clear n1 n2; omega
                          have hmI : ¬ (M : Int) < (M : Int) := by clear n1 n2; omega
                          generalize hF1 : mulC f iv p q M = F at HAN HMR hG
                          have HG6 := Lib.hid hG
                          clear hG HA HNZ HVR HIS hF1
                          go_wp2
                          clear n1 n2
                          go_loopw [21] (fun i wr => ∃ k : Nat, k ≤ N ∧ i = .int .i64 k ∧ GL L w4 g N M cc rb cp (elC F p q M k 0) wr) (fun i _ => N - (intOf i).toNat)
                          case atStart => exact ⟨0, Nat.zero_le _, rfl, by rw [elC_0]; exact HG6.out⟩
                          case round =>
                            rename_i hrel
                            clear HG6
                            obtain ⟨k, hk, rfl, hG⟩ := hrel
                            by_cases hkN : k < N
                            · have hkI : (k : Int) < (N : Int) := by omega
                              have hk0 : (0 : Int) ≤ (k : Int) := by omega
                              have r1 := hG.hd k hkN
                              have r2 := hG.at_ k q hkN hqM
                              rw [elC_row] at r2
                              have HG7 := Lib.hid hG
                              clear hG
                              go_wp2
                              clear r1 r2
                              have hqL : Hid (q < N) := Lib.hid hlt
                              by_cases hkq0 : k = q
                              · have hkqb : ((k : Int) != (q : Int)) = false := by simp; omega
                                have HKQ := Lib.hid hkq0
                                clear hkq0
                                go_loopw [23] (fun i wr => i = .int .i64 0 ∧ GL L w4 g N M cc rb cp (elC F p q M k 0) wr) (fun i _ => 0)
                                case atStart => exact ⟨rfl, HG7.out⟩
                                case round =>
                                  rename_i hrel
                                  clear HG7
                                  obtain ⟨rfl, hG⟩ := hrel
                                  have hM0 : (0 : Int) < (M : Int) := by have := HNM.out; omega
                                  have hM0n : 0 < M := by omega
                                  have HG8 := Lib.hid (show GL L w4 g N M cc rb cp (elC F p q M (k + 1) 0) wr by
                                    rw [HKQ.out] at hG ⊢; rw [← elC_skip]; exact hG)
                                  clear hG
                                  have n2 : wrap64 (2 * (N : Int)) = (M : Int) := by have := HNM.out; rw [IntWalk.wrap64_in _ (by omega)]; omega
                                  have n1 : IntKind.i64.wrap (2 * (N : Int)) = (M : Int) := by have := HNM.out; clear n2; rw [IntWalk.i64_in _ (by omega)]; omega
                                  go_wp2
                                  clear n1 n2
                                  go_roundw
                                  case rel => exact ⟨k+1, by omega, by go_num, HG8.out⟩
                                  case measure => first | exact meas_lt hkN (by have := HNM.out.1; omega) | exact meas_lt2 hkN
                              · have hkq : k ≠ q := hkq0
                                have hkqb : ((k : Int) != (q : Int)) = true := by simp; omega
                                go_loopw [23] (fun i wr => ∃ m : Nat, m ≤ M ∧ i = .int .i64 m ∧ GL L w4 g N M cc rb cp (elC F p q M k m) wr) (fun i _ => M - (intOf i).toNat)
                                case atStart => exact ⟨0, Nat.zero_le _, rfl, HG7.out⟩
                                case round =>
                                  rename_i hrel
                                  clear HG7
                                  obtain ⟨m, hm, rfl, hG⟩ := hrel
                                  by_cases hmm : m < M
                                  · have hmI : (m : Int) < (M : Int) := by omega
                                    have hm0 : (0 : Int) ≤ (m : Int) := by omega
                                    have r1 := hG.hd k hkN
                                    have r2 := hG.at_ k m hkN hmm
                                    rw [elC_at] at r2
                                    have r3 := hG.hd q hlt
                                    have r4 := hG.at_ q m hlt hmm
                                    rw [elC_c] at r4
                                    have b1 := HMR.out k m hkN hmm
                                    have b2 := HMR.out k q hkN hqM
                                    have b3 := HMR.out q m hlt hmm
                                    have b4 := mul101 b2 b3 hple.2
                                    have hGd : GL L w4 g N M cc rb cp (elC F p q M k m) wr.drew := hG.drew
                                    have d1 := hGd.hd k hkN
                                    have d2 := hGd.at_ k m hkN hmm
                                    rw [elC_at] at d2
                                    have d5 := hGd.fz k m hkN hmm
                                    have hNX := hGd.num hkN hmm ((F k m - F k q * F q m) % p)
                                    rw [elC_put F p hkq hmm] at hNX
                                    obtain ⟨z, hz⟩ : ∃ z, z = F k q * F q m := ⟨_, rfl⟩
                                    rw [← hz] at b4 hNX
                                    obtain ⟨x, hx⟩ : ∃ x, x = F k m - z := ⟨_, rfl⟩
                                    rw [← hx] at hNX
                                    have hxb : -10201 ≤ x ∧ x ≤ 10201 := by omega
                                    have HLM := Lib.hid (fun W => l09ModS p x W (by omega) (by omega))
                                    have HNX := Lib.hid hNX
                                    have m1 : IntKind.i64.wrap (F k q * F q m) = z := by rw [← hz]; exact IntWalk.i64_in _ (by clear hz hx; omega)
                                    have m2 : wrap64 (F k q * F q m) = z := by rw [← hz]; exact IntWalk.wrap64_in _ (by clear hz hx m1; omega)
                                    have m3 : IntKind.i64.wrap (F k m - z) = x := by rw [← hx]; exact IntWalk.i64_in _ (by clear hz hx m1 m2; omega)
                                    have m4 : wrap64 (F k m - z) = x := by rw [← hx]; exact IntWalk.wrap64_in _ (by clear hz hx m1 m2 m3; omega)
                                    generalize F k m = fkm at r2 d2 m3 m4
                                    generalize F q m = fqm at r4 m1 m2
                                    generalize F k q = fkq at m1 m2 ⊢
                                    clear hz hx hxb b1 b2 b3 b4 hNX hGd hG
                                    have n2 : wrap64 (2 * (N : Int)) = (M : Int) := by have := HNM.out; clear m1 m2 m3 m4; rw [IntWalk.wrap64_in _ (by omega)]; omega
                                    have n1 : IntKind.i64.wrap (2 * (N : Int)) = (M : Int) := by have := HNM.out; clear n2 m1 m2 m3 m4; rw [IntWalk.i64_in _ (by omega)]; omega
                                    go_wp2
                                    refine wp_region_still_tail 19 (by kernel_rfl) (by kernel_rfl) ?_
                                    simp only [List.take_succ_cons, List.take_zero, List.drop_succ_cons, List.drop_zero]
                                    iterate 17 still_step
                                    still_call (HLM.out _)
                                    still_step
                                    refine wpStill_nil ?_
                                    change wpList _ _ _ _ _ wr.drew
                                    clear m1 m2 m3 m4 n1 n2 r1 r2 r3 r4 HLM
                                    generalize wr.drew = V9 at HNX d1 d2 d5 ⊢
                                    go_wp2
                                    go_roundw
                                    case rel => exact ⟨m+1, by omega, by (rw [IntWalk.wrap64_in _ (by have := HM40.out; omega)]; rfl), HNX.out⟩
                                    case measure => exact meas_lt hmm HM40.out
                                  · obtain rfl : M = m := by omega
                                    have hmI : ¬ (M : Int) < (M : Int) := by omega
                                    have HG8 := Lib.hid (show GL L w4 g N M cc rb cp (elC F p q M (k + 1) 0) wr by rw [← elC_next]; exact hG)
                                    clear hG
                                    have n2 : wrap64 (2 * (N : Int)) = (M : Int) := by have := HNM.out; rw [IntWalk.wrap64_in _ (by omega)]; omega
                                    have n1 : IntKind.i64.wrap (2 * (N : Int)) = (M : Int) := by have := HNM.out; clear n2; rw [IntWalk.i64_in _ (by omega)]; omega
                                    go_wp2
                                    clear n1 n2
                                    go_roundw
                                    case rel => exact ⟨k+1, by omega, by go_num, HG8.out⟩
                                    case measure => first | exact meas_lt hkN (by have := HNM.out.1; omega) | exact meas_lt2 hkN
                            · obtain rfl : N = k := by omega
                              have hkI : ¬ (N : Int) < (N : Int) := by omega
                              have HG8 := Lib.hid hG
                              clear hG
                              go_wp2
                              go_roundw
                              case rel => exact ⟨q+1, rb, cp, _, _, by omega, by go_num, by rw [HR27.out], HG8.out, HAN⟩
                              case measure => first | exact meas_lt hlt (by have := HNM.out.1; omega) | exact meas_lt2 hlt
                · obtain rfl : r = N := by omega
                  have hno := gi_none HA.out hlt (by have := HNM.out.2.1; omega) (fun i h1 h2 => HZ.out i h1 h2)
                  rw [aug_dt, ← HPV.out] at hno
                  have hG := HGV.out.qt hqt
                  have HF := Lib.hid (⟨hno, HW4.out.1.trans (hG.below.mono (by omega))⟩ : _ ∧ _)
                  have hrr : ((r : Int) == (r : Int)) = true := by simp
                  clear hno hG HZ
                  go_wp2
                  go_ret2
                  exact ⟨.slice none 0 0, fun _ _ => 0, by rw [HF.out.1]; rfl, HF.out.2, fun h => absurd HF.out.1 h⟩
            · obtain rfl : N = q := by omega
              have hqI : ¬ (N : Int) < (N : Int) := by omega
              have hHN := HNM.out
              have hMN : M = 2 * N := hHN.2.1
              have hden := gi_end HA.out (show N ≤ M by omega)
              have HMN := Lib.hid hMN
              clear hHN hMN
              rw [aug_dt, ← HPV.out] at hden
              have HAF := Lib.hid HA.out
              have HGF := Lib.hid hG
              have HDE := Lib.hid hden
              have hLr : L ≤ V.heap.size := Nat.le_trans (show L ≤ w4.heap.size by rw [← HLL.out]; exact Nat.le_refl _) hG.below.size
              clear hG HA hden
              have hl0 := World.ownsRow_lit (base := V.heap.size) (e := 25) (size := 1) V #[] 0 (Nat.le_refl _) (by unfold maxLen; omega) rfl
              have hP0 : OwP V.heap.size w.heap.size (V.alloc (.cells #[] 25)) V.heap.size 0 0 [] [] := OwP.empty hl0 (by omega)
              have HPZ := Lib.hid (⟨hP0, (Below.refl V.heap.size V).alloc (Nat.le_refl _) (.cells #[] 25)⟩ : _ ∧ Below V.heap.size V (V.alloc (.cells #[] 25)))
              obtain ⟨Z, hZ⟩ : ∃ Z, Z = V.heap.size := ⟨_, rfl⟩
              have HZZ := Lib.hid hZ
              clear hP0 hl0
              go_wp2
              rw [← hZ] at HPZ ⊢
              generalize V.alloc (.cells #[] 25) = V2 at HPZ ⊢
              clear hZ hqI
              obtain ⟨T, hT⟩ : ∃ T : Nat → Nat → Int, T = fun i j => f i (N + j) := ⟨_, rfl⟩
              have HT := Lib.hid hT
              clear hT
              go_loopw [26, 25] (fun y v wr => ∃ (k : Nat) (rvs : List Value) (g2 c2 : Nat), k ≤ N ∧ y = .int .i64 k ∧ v = .slice (some ⟨g2, 0, none⟩) k c2 ∧ OwP Z w.heap.size wr g2 k c2 rvs ((tab N T).take k) ∧ Below Z V wr) (fun y _ _ => N - (intOf y).toNat)
              case atStart => exact ⟨0, [], Z, 0, Nat.zero_le _, rfl, rfl, HPZ.out⟩
              case round =>
                rename_i hrel
                clear HPZ
                obtain ⟨k, rvs, g2, c2, hk, rfl, rfl, hP, hB⟩ := hrel
                obtain ⟨U2, rfl⟩ : ∃ U2, U2 = wr := ⟨_, rfl⟩
                by_cases hlk : k < N
                · have hkI : (k : Int) < (N : Int) := by omega
                  have hMN := HMN.out
                  have hcp := (HGF.out.rg k hlk).2.2
                  have hN4 : N ≤ 20 := hN20
                  have hcpN : ¬ (cp k = N) := by omega
                  have hNM : N ≤ M := by omega
                  have hMNN : M - N = N := by omega
                  have hZV : Z = V.heap.size := HZZ.out
                  have hB' : Below V.heap.size V U2 := by rw [← hZV]; exact hB
                  have hrd := (HGF.out.half hlk hMN hN20 (fun j hj => by
                    have := HAF.out.rng k j hlk hj
                    unfold I64; omega)).below hB'
                  have hST := tab_take T hlk
                  have hTk : T k = fun j => f k (N + j) := by rw [HT.out]
                  rw [hTk] at hST
                  obtain ⟨ys, hys⟩ : ∃ ys, ys = (List.range N).map (fun j => f k (N + j)) := ⟨_, rfl⟩
                  have hyl : ys.length = N := by rw [hys]; simp
                  rw [← hys] at hST hrd
                  have HOW := Lib.hid (l01Own _ ys _ hrd)
                  have HST2 := Lib.hid hST
                  have HYL := Lib.hid hyl
                  have hZU : Z ≤ U2.heap.size := by have := hB'.size; omega
                  have HPB2 := Lib.hid (⟨hP, hB, hZU⟩ : _ ∧ _ ∧ _)
                  have r1 := hB'.keep (HGF.out.hd k hlk)
                  have hk0 : (0 : Int) ≤ (k : Int) := by omega
                  have hN0 : (0 : Int) ≤ (N : Int) := by omega
                  have hNMI : (N : Int) ≤ (M : Int) := by omega
                  clear hrd hST hTk hys hyl hB' hP hB hcp hMN hN4 hZV
                  go_wp2_with fail
                  refine HOW.out.mono ?_
                  rintro e w5 ⟨a5, c5, rfl, o5, b5⟩
                  obtain ⟨hP, hB, hZU2⟩ := HPB2.out
                  have hownV := (hP.below b5).out.alloc (.cells #[.slice a5 ys.length c5] 25)
                  have hnews := news_one w5 25 (.slice a5 ys.length c5)
                  have hszw := b5.size
                  have hwZ : w.heap.size < Z := by have := HZZ.out; omega
                  have HP9 := Lib.hid (⟨o5, hP, hB, b5⟩ : _ ∧ _ ∧ _ ∧ _)
                  clear o5 hP hB b5 r1 HOW HPB2
                  go_wp2_with (at_builtin; refine wpList_append_lies _ rfl _ _ 22 rfl Z 25 j0 (.slice none 0 0) 1 24 Try.underlying22 hj' y0 y1 y2 rfl (by decide) _ _ _ rfl hownV ⟨w5.heap.size, 0, none⟩ 1 1 [.slice a5 ys.length c5] rfl rfl ?d1 ?d2 (by decide) ?d3 ?d4 ?d5 _ rfl ?_)
                  case d1 => exact hnews
                  case d2 => first | (intro u hu; simp at hu; subst hu; rfl) | rfl | simp
                  case d3 => unfold maxLen; omega
                  case d4 => omega
                  case d5 => simp; omega
                  intro g3 c3 w9 hown3 hgr hlie hlt3
                  obtain ⟨o5, hP, hB, b5⟩ := HP9.out
                  have hlt2 := hP.lt
                  have hV3 := hP.snocF (hi := w5.heap.size) (by omega) b5 o5 hown3 hgr (hlie.imp id (fun e => by rw [e]; simp))
                  have hb3 : Chg g2 (g2 + 1) U2 w9 := snocC b5 hgr
                  rw [← HST2.out] at hV3
                  have hB3 : Below Z V w9 := hB.trans (hb3.below (by omega) (by omega))
                  have HF := Lib.hid (⟨hV3, hB3⟩ : _ ∧ _)
                  clear o5 hP hB b5 hV3 hb3 hB3 hown3 hgr hlie hnews hownV
                  go_wp2
                  go_roundw
                  case rel => exact ⟨k+1, _, g3, c3, by omega, by go_num, rfl, HF.out⟩
                  case measure => first | exact meas_lt hlk (by omega) | exact meas_lt2 hlk
                · obtain rfl : N = k := by omega
                  have hkI : ¬ (N : Int) < (N : Int) := by omega
                  rw [List.take_of_length_le (by simp [tab])] at hP
                  have hO := (hP.owr (by omega)).mono (lo := Z) (lo' := w.heap.size) (by have := HZZ.out; omega) (Nat.le_refl _)
                  have hBE := (HW4.out.1.trans (HGF.out.below.mono (Nat.le_of_lt hwL))).trans (hB.mono (by have := HZZ.out; omega))
                  have HFI := Lib.hid (⟨hO, hBE⟩ : _ ∧ _)
                  clear hO hBE hP hB
                  go_wp2
                  go_ret2
                  have hMN := HMN.out
                  have hLAST : ∀ e z, e < N → z < N → (0 ≤ T e z ∧ T e z < p) ∧ cq p (dt (tp (augM E p u N) N) ((List.range N).map (fun c => if c = e then N + z else c))) (D * T e z) := fun e z he hz => by
                    rw [HT.out, ← HDE.out]
                    exact ⟨HAF.out.rng e (N + z) he (by omega), gi_cramer HAF.out (by omega) e (N + z) he (by omega) (by omega)⟩
                  first
                    | exact ⟨.slice (some ⟨g2, 0, none⟩) N c2, T, by rw [← HDE.out]; rfl, HFI.out.2, fun _ => ⟨_, _, rfl, HFI.out.1, hLAST⟩⟩
                    | exact ⟨.slice (some ⟨g2, 0, none⟩) N c2, by rw [← HDE.out]; rfl, HFI.out.2, T, fun _ => ⟨_, _, rfl, HFI.out.1, hLAST⟩⟩
                    | exact ⟨.slice (some ⟨g2, 0, none⟩) N c2, by rw [← HDE.out]; rfl, T, HFI.out.2, fun _ => ⟨_, _, rfl, HFI.out.1, hLAST⟩⟩
                    | trace_state
        · obtain rfl : N = 0 := by omega
          have hD : D = 1 := by
            have e0 : dt (tp (plM E p u) 0) (List.range 0) = 1 := rfl
            rw [HPV.out, e0]; exact Int.emod_eq_of_lt (by decide) (by omega)
          have hBE := HW4.out.1.trans (HBU.out.mono (Nat.le_of_lt hwL))
          have hl0 := World.ownsRow_lit (base := U.heap.size) (e := 25) (size := 1) U #[] 0 (Nat.le_refl _) (by unfold maxLen; omega) rfl
          have hBV := (Below.refl U.heap.size U).alloc (Nat.le_refl _) (.cells #[] 25)
          have hP0 : OwP U.heap.size w.heap.size (U.alloc (.cells #[] 25)) U.heap.size 0 0 [] [] := OwP.empty hl0 (by have := hBE.size; have := HW4.out.2; have := HBU.out.size; have := HLL.out; omega)
          have HFI := Lib.hid (⟨(hP0.owr (by omega)).mono (lo := U.heap.size) (lo' := w.heap.size) hBE.size (Nat.le_refl _), hBE.next hBV⟩ : OwR w.heap.size _ _ _ [] ∧ _)
          have HD1 := Lib.hid hD
          clear hD hBE hl0 hBV hP0 hP hB hO HN2
          have h00 : ¬ (0 : Int) < 0 := by omega
          go_wp2
          go_loopw [15, 10] (fun i dv wr => i = .int .i64 0 ∧ dv = .int .i64 1 ∧ wr = U) (fun _ _ _ => 0)
          case atStart => exact ⟨rfl, rfl, rfl⟩
          case round =>
            rename_i hrel
            obtain ⟨rfl, rfl, rfl⟩ := hrel
            go_wp2
            go_loopw [26, 25] (fun i dv w2 => i = .int .i64 0 ∧ dv = .slice (some ⟨wr.heap.size, 0, none⟩) 0 0 ∧ w2 = wr.alloc (.cells #[] 25)) (fun _ _ _ => 0)
            case atStart => exact ⟨rfl, rfl, rfl⟩
            case round =>
              rename_i hrel
              obtain ⟨rfl, rfl, rfl⟩ := hrel
              go_wp2
              go_ret2
              first
                | exact ⟨.slice (some ⟨wr.heap.size, 0, none⟩) 0 0, fun _ _ => 0, by rw [HD1.out]; rfl, HFI.out.2, fun _ => ⟨_, _, rfl, HFI.out.1, fun e z he hz => absurd he (by omega)⟩⟩
                | exact ⟨.slice (some ⟨wr.heap.size, 0, none⟩) 0 0, by rw [HD1.out]; rfl, HFI.out.2, fun _ _ => 0, fun _ => ⟨_, _, rfl, HFI.out.1, fun e z he hz => absurd he (by omega)⟩⟩
                | exact ⟨.slice (some ⟨wr.heap.size, 0, none⟩) 0 0, by rw [HD1.out]; rfl, fun _ _ => 0, HFI.out.2, fun _ => ⟨_, _, rfl, HFI.out.1, fun e z he hz => absurd he (by omega)⟩⟩
                | trace_state
end Go.Proofs.Ytnblhkhdilkbeaa
