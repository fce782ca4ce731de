/- Products of polynomials modulo a prime, of the program. -/
import Derived.Test.YtolipjemabmlkaaResW
set_option linter.unusedSimpArgs false
set_option linter.unusedVariables false
set_option maxRecDepth 100000
namespace Go.Proofs.Ytolipjemabmlkaa
open Go.RowKit

set_option maxHeartbeats 800000 in
theorem resTimes0 (y p : Int) (w : World) (hy : 0 ≤ y ∧ y ≤ 10007) (hp : 1 ≤ p ∧ p ≤ 10007) :
    Calls Try.prog 191 #[.agg #[.int .i64 0, .int .i64 0], .agg #[.int .i64 y, .int .i64 p]] w fun e w' => e = .returned (.agg #[.int .i64 0, .int .i64 p]) ∧ Below w.heap.size w w' := by
  have hb0 : ∀ o o' o'', Below w.heap.size w (((w.alloc o).alloc o').alloc o'') := fun o o' o'' => (((Below.refl _ _).alloc (Nat.le_refl _) o).alloc (by simp) o').alloc (by simp; omega) o''
  have hm1 : ¬ p < 0 := by omega
  have hm2 : (0 : Int) < p := by omega
  have z2 : wrap64 y = y := IntWalk.wrap64_in _ (by omega)
  have z1 : IntKind.i64.wrap y = y := IntWalk.i64_in _ (by omega)
  go_enter Try.func191, Try.ntmps191
  go_wp2_with fail
  obtain ⟨R, hR⟩ : ∃ R, R = w.heap.size + 1 + 1 := ⟨_, rfl⟩
  refine calls_gen (fun W => Below w.heap.size w W ∧ R < W.heap.size ∧ W.cell? ⟨R, 0, none⟩ = some (.int .i64 0) ∧ W.cell? ⟨R, 1, none⟩ = some (.int .i64 0) ∧ W.frozen? ⟨R, 0, none⟩ = false ∧ W.frozen? ⟨R, 1, none⟩ = false) ⟨hb0 _ _ _, by rw [hR]; simp, by rw [hR]; go_simp, by rw [hR]; go_simp, by rw [hR]; go_simp, by rw [hR]; go_simp⟩ ?_
  rintro W ⟨hB, hz, c0, c1, f0, f1⟩
  rw [← hR]
  have hRw : w.heap.size < R := by omega
  clear hR
  refine (residueOf 0 p W (by omega) hp).mono ?_
  rintro e w1 ⟨rfl, b1⟩
  replace c0 := b1.keep c0
  replace c1 := b1.keep c1
  replace f0 := b1.keepf hz f0
  replace f1 := b1.keepf hz f1
  replace hB := hB.next b1
  obtain ⟨r, hr⟩ : ∃ r, r = 0 % p := ⟨_, rfl⟩
  rw [← hr]
  have hf : Below w.heap.size w ((w1.setCell ⟨R, 0, none⟩ (.int .i64 r)).setCell ⟨R, 1, none⟩ (.int .i64 p)) := (hB.setCell (Nat.le_of_lt hRw) _).setCell (Nat.le_of_lt hRw) _
  have v0 : ((w1.setCell ⟨R, 0, none⟩ (.int .i64 r)).setCell ⟨R, 1, none⟩ (.int .i64 p)).cell? ⟨R, 0, none⟩ = some (.int .i64 r) := by
    rw [World.cell?_setCell_other _ _ _ _ (by simp)]; exact World.cell?_setCell_same _ _ _ c0
  have v1 : ((w1.setCell ⟨R, 0, none⟩ (.int .i64 r)).setCell ⟨R, 1, none⟩ (.int .i64 p)).cell? ⟨R, 1, none⟩ = some (.int .i64 p) := World.cell?_setCell_same _ _ _ (by rw [World.cell?_setCell_other _ _ _ _ (by simp)]; exact c1)
  have HR := Lib.hid hr
  clear hr hz b1 z1 z2
  go_wp2
  refine bodyPost_ret (v := .agg #[.int .i64 r, .int .i64 p]) (by simp [results, Try.results191, go_sem, v0, v1]) rfl ⟨by rw [HR.out, Int.zero_emod], hf⟩

theorem resTimesG (x y px p : Int) (w : World) (hpx : (px = 0 ∧ x = 0) ∨ px = p) (hx : 0 ≤ x ∧ x ≤ 10007) (hy : 0 ≤ y ∧ y ≤ 10007) (hp : 1 ≤ p ∧ p ≤ 10007) :
    Calls Try.prog 191 #[.agg #[.int .i64 x, .int .i64 px], .agg #[.int .i64 y, .int .i64 p]] w fun e w' => e = .returned (.agg #[.int .i64 (x * y % p), .int .i64 p]) ∧ Below w.heap.size w w' := by
  rcases hpx with ⟨h1, h2⟩ | h1
  · rw [h1, h2, Int.zero_mul, Int.zero_emod]; exact resTimes0 y p w hy hp
  · rw [h1]; exact resTimes x y p w hx hy hp

/-- the number at t of the product with the first numbers -/
def cvN (p : Int) (xs ys : List Int) (t : Nat) : Nat → Int
  | 0 => 0
  | i + 1 => if i ≤ t ∧ t - i < ys.length then (cvN p xs ys t i + xs.getD i 0 * ys.getD (t - i) 0) % p else cvN p xs ys t i
theorem cvN_in {p : Int} {xs ys : List Int} {t : Nat} (hp : 2 ≤ p) : ∀ i, 0 ≤ cvN p xs ys t i ∧ cvN p xs ys t i < p
  | 0 => ⟨by unfold cvN; omega, by unfold cvN; omega⟩
  | i + 1 => by
    unfold cvN
    split
    · exact ⟨Int.emod_nonneg _ (by omega), Int.emod_lt_of_pos _ (by omega)⟩
    · exact cvN_in hp i
/-- a pair of a number modulo p, or of the zero value -/
def GdP (p : Int) (e : Int × Int) : Prop := (e.2 = 0 ∧ e.1 = 0) ∨ e.2 = p
/-- the product while the row i is added up to the column j -/
structure PrI (p : Int) (xs ys : List Int) (L i j : Nat) (es : List (Int × Int)) : Prop where
  len : es.length = L
  val : ∀ t, t < L → (es.getD t (0, 0)).1 = if i ≤ t ∧ t - i < j then cvN p xs ys t (i + 1) else cvN p xs ys t i
  gd : ∀ t, t < L → GdP p (es.getD t (0, 0))
theorem PrI.step {p : Int} {xs ys : List Int} {L i j : Nat} {es : List (Int × Int)} (h : PrI p xs ys L i j es) (hj : j < ys.length) (hL : i + j < L) : PrI p xs ys L i (j + 1) (es.set (i + j) ((cvN p xs ys (i + j) i + xs.getD i 0 * ys.getD j 0) % p, p)) := by
  have hl := h.len
  refine ⟨by rw [List.length_set, hl], fun t ht => ?_, fun t ht => ?_⟩
  · by_cases e : t = i + j
    · subst e
      have e1 : (es.set (i + j) ((cvN p xs ys (i + j) i + xs.getD i 0 * ys.getD j 0) % p, p)).getD (i + j) (0, 0) = ((cvN p xs ys (i + j) i + xs.getD i 0 * ys.getD j 0) % p, p) := by simp [List.getD, List.getElem?_set, hl, ht]
      rw [e1, if_pos (by omega)]
      conv => rhs; unfold cvN
      rw [if_pos (by omega), show i + j - i = j by omega]
    · have e1 : (es.set (i + j) ((cvN p xs ys (i + j) i + xs.getD i 0 * ys.getD j 0) % p, p)).getD t (0, 0) = es.getD t (0, 0) := by simp [List.getD, List.getElem?_set, Ne.symm e]
      rw [e1, h.val t ht]
      by_cases c : i ≤ t ∧ t - i < j
      · rw [if_pos c, if_pos (by omega)]
      · rw [if_neg c, if_neg (by omega)]
  · by_cases e : t = i + j
    · subst e
      have e1 : (es.set (i + j) ((cvN p xs ys (i + j) i + xs.getD i 0 * ys.getD j 0) % p, p)).getD (i + j) (0, 0) = ((cvN p xs ys (i + j) i + xs.getD i 0 * ys.getD j 0) % p, p) := by simp [List.getD, List.getElem?_set, hl, ht]
      rw [e1]; exact .inr rfl
    · have e1 : (es.set (i + j) ((cvN p xs ys (i + j) i + xs.getD i 0 * ys.getD j 0) % p, p)).getD t (0, 0) = es.getD t (0, 0) := by simp [List.getD, List.getElem?_set, Ne.symm e]
      rw [e1]; exact h.gd t ht
theorem PrI.next {p : Int} {xs ys : List Int} {L i : Nat} {es : List (Int × Int)} (h : PrI p xs ys L i ys.length es) : PrI p xs ys L (i + 1) 0 es :=
  ⟨h.len, fun t ht => by
    rw [h.val t ht, if_neg (show ¬ (i + 1 ≤ t ∧ t - (i + 1) < 0) by omega)]
    by_cases c : i ≤ t ∧ t - i < ys.length
    · rw [if_pos c]
    · rw [if_neg c]
      conv => rhs; unfold cvN
      rw [if_neg c], h.gd⟩
theorem PrI.start (p : Int) (xs ys : List Int) (L : Nat) : PrI p xs ys L 0 0 (List.replicate L (0, 0)) :=
  ⟨by simp, fun t ht => by rw [if_neg (by omega)]; simp [List.getD, ht, cvN], fun t ht => .inl (by simp [List.getD, ht])⟩
theorem flat_put : ∀ (es : List (Int × Int)) (k : Nat) (u v : Int), ((flat es).set (k * 2) (.int .i64 u)).set (k * 2 + 1) (.int .i64 v) = flat (es.set k (u, v))
  | [], k, u, v => by simp [flat]
  | e :: r, 0, u, v => by simp [flat]
  | e :: r, k + 1, u, v => by
    have ih := flat_put r k u v
    have h1 : (k + 1) * 2 = k * 2 + 1 + 1 := by omega
    simp only [flat, List.flatMap_cons, List.set_cons_succ, List.cons_append, List.nil_append, h1] at ih ⊢
    rw [ih]
theorem flat_rep (L : Nat) : flat (List.replicate L (0, 0)) = setE [] L := by
  unfold setE
  simp only [flat, List.flatMap_nil, List.nil_append, List.length_nil, Nat.mul_zero, Nat.sub_zero]
  induction L with
  | zero => rfl
  | succ L ih =>
    rw [List.replicate_succ, List.flatMap_cons, ih, show 2 * (L + 1) = 2 * L + 1 + 1 by omega, List.replicate_succ, List.replicate_succ]
    rfl

set_option maxHeartbeats 6400000 in
theorem pTimes (p : Int) (es : List (Int × Int)) (xs ys : List Int) (a : Option Addr) (n1 c1 : Nat) (a2 : Option Addr) (n2 c2 : Nat) (w : World) (h1 : RdP w a es) (hl1 : es.length = n1) (hg : ∀ i, i < n1 → (es.getD i (0, 0)).1 = xs.getD i 0 ∧ GdP p (es.getD i (0, 0)))
    (h2 : RdP w a2 (rp p ys)) (hl2 : ys.length = n2) (hn1 : 1 ≤ n1 ∧ n1 ≤ 41) (hn2 : 1 ≤ n2 ∧ n2 ≤ 41) (hx : ∀ j, j < n1 → 0 ≤ xs.getD j 0 ∧ xs.getD j 0 < p) (hy : ∀ j, j < n2 → 0 ≤ ys.getD j 0 ∧ ys.getD j 0 < p) (hp : 2 ≤ p ∧ p ≤ 10007) :
    Calls Try.prog 120 #[.slice a n1 c1, .slice a2 n2 c2] w fun e w' => ∃ g fs, e = .returned (.slice (some ⟨g, 0, none⟩) (n1 + n2 - 1) (n1 + n2 - 1)) ∧ PrI p xs ys (n1 + n2 - 1) n1 0 fs ∧ w'.ownsRow w.heap.size 106 2 (.slice (some ⟨g, 0, none⟩) (n1 + n2 - 1) (n1 + n2 - 1)) (n1 + n2 - 1) (flat fs) ∧ Below w.heap.size w w' := by
  obtain ⟨i0, hi', z0, z1, z2⟩ := info_parts Try.info106
  obtain ⟨L, hL⟩ : ∃ L, L = n1 + n2 - 1 := ⟨_, rfl⟩
  rw [← hL]
  have H1 := Lib.hid (fun W (hB : Below w.heap.size w W) i (hi : i < n1) => show ∃ b off px, a = some ⟨b, off, none⟩ ∧ W.cell? ⟨b, off + i * 2, none⟩ = some (.int .i64 (xs.getD i 0)) ∧ W.cell? ⟨b, off + i * 2 + 1, none⟩ = some (.int .i64 px) ∧ ((px = 0 ∧ xs.getD i 0 = 0) ∨ px = p) by
    obtain ⟨b, off, e1, e2, e3⟩ := (h1.below hB) i (by omega)
    obtain ⟨g1, g2⟩ := hg i hi
    rw [g1] at e2
    unfold GdP at g2
    rw [g1] at g2
    exact ⟨b, off, _, e1, e2, e3, g2⟩)
  have H2 := Lib.hid (fun W (hB : Below w.heap.size w W) j (hj : j < n2) => show ∃ b off, a2 = some ⟨b, off, none⟩ ∧ W.cell? ⟨b, off + j * 2, none⟩ = some (.int .i64 (ys.getD j 0)) ∧ W.cell? ⟨b, off + j * 2 + 1, none⟩ = some (.int .i64 p) by
    have := (h2.below hB) j (by rw [rp_len, hl2]; exact hj)
    rw [rp_get (by rw [hl2]; exact hj)] at this
    exact this)
  have HX := Lib.hid hx
  have HY := Lib.hid hy
  have HL2 := Lib.hid hl2
  have HL := Lib.hid hL
  have hL81 : L ≤ 81 := by omega
  have b1 : ((n1 : Int) == 0) = false := by simp; omega
  have b2 : ((n2 : Int) == 0) = false := by simp; omega
  have hLi : (n1 : Int) + (n2 : Int) - 1 = (L : Int) := by omega
  have hsb : (n1 : Int) + (n2 : Int) ≤ 82 := by omega
  have hsb2 : (0 : Int) ≤ (n1 : Int) + (n2 : Int) := by omega
  have HW := Lib.hid (show IntKind.i64.wrap ((n1 : Int) + (n2 : Int) - 1) = (L : Int) by rw [hLi]; exact IntWalk.i64_in _ (by omega))
  have HW2 := Lib.hid (show wrap64 ((n1 : Int) + (n2 : Int) - 1) = (L : Int) by rw [hLi]; exact IntWalk.wrap64_in _ (by omega))
  have HW3 := Lib.hid (show IntKind.i64.wrap ((n1 : Int) + (n2 : Int)) = (n1 : Int) + (n2 : Int) from IntWalk.i64_in _ (by omega))
  have HW4 := Lib.hid (show wrap64 ((n1 : Int) + (n2 : Int)) = (n1 : Int) + (n2 : Int) from IntWalk.wrap64_in _ (by omega))
  clear hLi hsb hsb2
  have w1' := HW.out
  have w2' := HW2.out
  have w3' := HW3.out
  have w4' := HW4.out
  have hmt := r_times
  have hmp := r_plus
  clear h1 hg h2 hx hy hl2 hl1 hL
  go_enter Try.func120, Try.ntmps120
  go_wp2_with (at_make; refine wpList_make_full _ rfl _ _ 108 rfl w.heap.size 106 i0 (.agg #[.int .i64 0, .int .i64 0]) 2 Try.underlying108 hi' z0 z1 _ _ _ _ L rfl rfl ?e1 ?e2 ?c1 ?c2 ?c3 ?_)
  case e1 => rfl
  case e2 => rfl
  case c1 => rw [z2]; clear w1' w2' w3' w4'; omega
  case c2 => clear w1' w2' w3' w4'; unfold maxLen; omega
  case c3 => exact Nat.le_refl _
  clear w1' w2' w3' w4'
  intro w1 hown hgr
  rw [setE_zero L, ← flat_rep] at hown
  have hbl : Below w.heap.size w w1 := (Below.refl _ _).grown hgr (Nat.le_refl _) (by simp)
  clear hgr
  obtain ⟨G, hG⟩ : ∃ G, G = w.heap.size := ⟨_, rfl⟩
  rw [← hG] at hown ⊢
  have HG := Lib.hid hG
  have HS := Lib.hid (⟨hown, hbl⟩ : _ ∧ _)
  clear hG hown hbl
  go_wp2
  go_loopw [25] (fun v wr => ∃ (i : Nat) (fs : List (Int × Int)), i ≤ n1 ∧ v = .int .i64 i ∧ PrI p xs ys L i 0 fs ∧ wr.ownsRow G 106 2 (.slice (some ⟨G, 0, none⟩) L L) L (flat fs) ∧ Below w.heap.size w wr) (fun v _ => n1 - (intOf v).toNat)
  case atStart => exact ⟨0, _, Nat.zero_le _, rfl, PrI.start p xs ys L, HS.out⟩
  case round =>
    clear HS
    obtain ⟨i, fs, hi, rfl, hP, hown, hB⟩ := hrel
    obtain ⟨U, rfl⟩ : ∃ U, U = wr := ⟨_, rfl⟩
    by_cases hlt : i < n1
    · have HP0 := Lib.hid (⟨hP, hown, hB⟩ : _ ∧ _ ∧ _)
      clear hP hown hB
      go_wp2
      go_loopw [30] (fun v wr2 => ∃ (j : Nat) (fs2 : List (Int × Int)), j ≤ n2 ∧ v = .int .i64 j ∧ PrI p xs ys L i j fs2 ∧ wr2.ownsRow G 106 2 (.slice (some ⟨G, 0, none⟩) L L) L (flat fs2) ∧ Below w.heap.size w wr2) (fun v _ => n2 - (intOf v).toNat)
      case atStart => exact ⟨0, fs, Nat.zero_le _, rfl, HP0.out⟩
      case round =>
        rename_i hrel
        clear HP0
        obtain ⟨j, fs2, hj, rfl, hP, hown, hB⟩ := hrel
        by_cases hlj : j < n2
        · obtain ⟨K, hK⟩ : ∃ K, K = i + j := ⟨_, rfl⟩
          have hKL : K < L := by have := HL.out; omega
          have hK81 : K ≤ 81 := by omega
          obtain ⟨b, off, px, rfl, g0, g1, hpx⟩ := H1.out wr hB i hlt
          obtain ⟨b', off', rfl, g2, g3⟩ := H2.out wr hB j hlj
          have H1W : Hid ((∃ u, w.cell? ⟨b, off + i * 2, none⟩ = some u) ∧ (∃ u, w.cell? ⟨b', off' + j * 2, none⟩ = some u)) := Lib.hid (by
            obtain ⟨b8, o8, p8, e8, g8, _⟩ := H1.out w (Below.refl _ _) i hlt
            obtain ⟨b9, o9, e9, g9, _⟩ := H2.out w (Below.refl _ _) j hlj
            simp only [Option.some.injEq, Addr.mk.injEq, and_true] at e8 e9
            rw [e8.1, e8.2, e9.1, e9.2]
            exact ⟨⟨_, g8⟩, ⟨_, g9⟩⟩)
          obtain ⟨hx0, hx1⟩ := HX.out i hlt
          obtain ⟨hy0, hy1⟩ := HY.out j hlj
          obtain ⟨hs0, hs1⟩ := cvN_in (p := p) (xs := xs) (ys := ys) (t := K) hp.1 i
          have hst := hP.step (show j < ys.length by rw [HL2.out]; exact hlj) (by rw [← hK]; exact hKL)
          have hvl := hP.val K hKL
          rw [if_neg (by omega)] at hvl
          have hgd := hP.gd K hKL
          rw [← hK] at hst
          have hlf : K < fs2.length := by rw [hP.len]; exact hKL
          obtain ⟨l0, l1⟩ := flat_getE fs2 K hlf
          have c0 := (hown.cellAt (K * 2) (by omega)).trans l0
          have c1 := (hown.cellAt (K * 2 + 1) (by omega)).trans l1
          have f0 := hown.frozenAt (K * 2)
          have f1 := hown.frozenAt (K * 2 + 1)
          rw [hvl] at c0
          unfold GdP at hgd
          rw [hvl] at hgd
          generalize (fs2.getD K (0, 0)).2 = q at c1 hgd
          generalize cvN p xs ys K i = s0 at *
          generalize xs.getD i 0 = x at *
          generalize ys.getD j 0 = y at *
          have HGD := Lib.hid hgd
          have HPX := Lib.hid hpx
          have HST := Lib.hid hst
          have HGz : Hid (G < wr.heap.size) := Lib.hid (hown.lt G rfl).2
          have HO := Lib.hid hown
          have HB := Lib.hid hB
          have k1 : IntKind.i64.wrap ((i : Int) + (j : Int)) = (K : Int) := by rw [← Int.natCast_add, ← hK]; exact IntWalk.i64_in _ (by clear hK; omega)
          have k2 : wrap64 ((i : Int) + (j : Int)) = (K : Int) := by rw [← Int.natCast_add, ← hK]; exact IntWalk.wrap64_in _ (by clear hK k1; omega)
          have hin : (i : Int) < (n1 : Int) := by clear hK k1 k2; omega
          have hjn : (j : Int) < (n2 : Int) := by clear hK k1 k2; omega
          have hKn : (K : Int) < (L : Int) := by clear hK k1 k2; omega
          have m0 := Int.emod_nonneg (x * y) (show p ≠ 0 by clear hK k1 k2; omega)
          have m1 := Int.emod_lt_of_pos (x * y) (show 0 < p by clear hK k1 k2; omega)
          have HTM := Lib.hid (fun W' => resTimesG x y px p W' HPX.out ⟨hx0, by clear hK k1 k2; omega⟩ ⟨hy0, by clear hK k1 k2; omega⟩ ⟨by clear hK k1 k2; omega, hp.2⟩)
          have HPL := Lib.hid (fun W' => resPlusG s0 (x * y % p) q p W' HGD.out ⟨hs0, by clear hK k1 k2; omega⟩ ⟨m0, by clear hK k1 k2; omega⟩ ⟨by clear hK k1 k2; omega, hp.2⟩)
          clear m0 m1
          have HBN : Hid (b ≠ G ∧ b' ≠ G) := Lib.hid (by
            have h8 := World.block_lt_of_cell? w _ H1W.out.1.choose_spec
            have h9 := World.block_lt_of_cell? w _ H1W.out.2.choose_spec
            have := HG.out
            dsimp only at h8 h9
            omega)
          have HS := Lib.hid (fun (W' : World) (hb : Below wr.heap.size wr W') => (⟨hb.keep g0, hb.keep g1, hb.keep g2, hb.keep g3⟩ : W'.cell? ⟨b, off + i * 2, none⟩ = some (.int .i64 x) ∧ W'.cell? ⟨b, off + i * 2 + 1, none⟩ = some (.int .i64 px) ∧ W'.cell? ⟨b', off' + j * 2, none⟩ = some (.int .i64 y) ∧ W'.cell? ⟨b', off' + j * 2 + 1, none⟩ = some (.int .i64 p)))
          have HS3 := Lib.hid (fun (W' : World) (u9 : Value) (hb : Below wr.heap.size wr W') => show (fun W' : World => W'.cell? ⟨b, off + i * 2, none⟩ = some (.int .i64 x) ∧ W'.cell? ⟨b, off + i * 2 + 1, none⟩ = some (.int .i64 px) ∧ W'.cell? ⟨b', off' + j * 2, none⟩ = some (.int .i64 y) ∧ W'.cell? ⟨b', off' + j * 2 + 1, none⟩ = some (.int .i64 p)) ((W'.setCell ⟨G, K * 2, none⟩ u9).setCell ⟨G, K * 2 + 1, none⟩ (.int .i64 p)) from by
            have h8 := HBN.out
            have e8 : ∀ (bb oo mm : Nat) (v9 : Value) (V9 : World), bb ≠ G → (V9.setCell ⟨G, mm, none⟩ v9).cell? ⟨bb, oo, none⟩ = V9.cell? ⟨bb, oo, none⟩ := fun bb oo mm v9 V9 hne => World.cell?_setCell_other _ _ _ _ (by intro e9; have e7 := congrArg Addr.block e9; dsimp only at e7; omega)
            refine ⟨?_, ?_, ?_, ?_⟩
            · rw [e8 _ _ _ _ _ h8.1, e8 _ _ _ _ _ h8.1]; exact hb.keep g0
            · rw [e8 _ _ _ _ _ h8.1, e8 _ _ _ _ _ h8.1]; exact hb.keep g1
            · rw [e8 _ _ _ _ _ h8.2, e8 _ _ _ _ _ h8.2]; exact hb.keep g2
            · rw [e8 _ _ _ _ _ h8.2, e8 _ _ _ _ _ h8.2]; exact hb.keep g3)
          have q0 := (Qt.refl wr).drew.below.keep g0
          have q1 := (Qt.refl wr).drew.below.keep g1
          have q2 := (Qt.refl wr).drew.below.keep g2
          have q3 := (Qt.refl wr).drew.below.keep g3
          have q4 := (Qt.refl wr).drew.below.keep c0
          have q5 := (Qt.refl wr).drew.below.keep c1
          clear hK hgd hpx hst hvl hlf l0 l1 hown hP hB
          go_wp2
          refine wp_region_held_drew (S := fun W' => W'.cell? ⟨b, off + i * 2, none⟩ = some (.int .i64 x) ∧ W'.cell? ⟨b, off + i * 2 + 1, none⟩ = some (.int .i64 px) ∧ W'.cell? ⟨b', off' + j * 2, none⟩ = some (.int .i64 y) ∧ W'.cell? ⟨b', off' + j * 2 + 1, none⟩ = some (.int .i64 p)) (by kernel_rfl) (HS.out _ ((Qt.refl wr).drew).below) (fun hHeld => ?_)
          refine wpAnyH_take (i := 0) (oi := ?oz1) (v := ?vz1) ?h1z1 ?h2z1 ?h3z1 ?h4z1 ?h5z1 ?h6z1 ?h7z1 ?h8z1
          case h1z1 => (simp only [List.getElem?_toArray, List.getElem?_cons_succ, List.getElem?_cons_zero]; exact rfl)
          case h2z1 => kernel_rfl
          case h3z1 => kernel_rfl
          case h4z1 => kernel_rfl
          case h5z1 => exact fun _ _ _ h => h
          case h6z1 => (refine Or.inl ⟨by rfl, ?_⟩; intro W' hSw; obtain ⟨s1, s2, s3, s4⟩ := hSw; go_simp; try (with_reducible rfl))
          case h7z1 => assumption
          try simp only [Act.put, List.setIfInBounds_toArray, List.set_cons_zero, List.set_cons_succ]
          refine wpAnyH_take (i := 1) (oi := ?oz2) (v := ?vz2) ?h1z2 ?h2z2 ?h3z2 ?h4z2 ?h5z2 ?h6z2 ?h7z2 ?h8z2
          case h1z2 => (simp only [List.getElem?_toArray, List.getElem?_cons_succ, List.getElem?_cons_zero]; exact rfl)
          case h2z2 => kernel_rfl
          case h3z2 => kernel_rfl
          case h4z2 => kernel_rfl
          case h5z2 => exact fun _ _ _ h => h
          case h6z2 => (refine Or.inl ⟨by rfl, ?_⟩; intro W' hSw; obtain ⟨s1, s2, s3, s4⟩ := hSw; go_simp; try (with_reducible rfl))
          case h7z2 => assumption
          try simp only [Act.put, List.setIfInBounds_toArray, List.set_cons_zero, List.set_cons_succ]
          refine wpAnyH_take (i := 2) (oi := ?oz3) (v := ?vz3) ?h1z3 ?h2z3 ?h3z3 ?h4z3 ?h5z3 ?h6z3 ?h7z3 ?h8z3
          case h1z3 => (simp only [List.getElem?_toArray, List.getElem?_cons_succ, List.getElem?_cons_zero]; exact rfl)
          case h2z3 => kernel_rfl
          case h3z3 => kernel_rfl
          case h4z3 => kernel_rfl
          case h5z3 => exact fun _ _ _ h => h
          case h6z3 => (refine Or.inl ⟨by rfl, ?_⟩; intro W' hSw; obtain ⟨s1, s2, s3, s4⟩ := hSw; go_simp; try (with_reducible rfl))
          case h7z3 => assumption
          try simp only [Act.put, List.setIfInBounds_toArray, List.set_cons_zero, List.set_cons_succ]
          refine wpAnyH_take (i := 3) (oi := ?oz4) (v := ?vz4) ?h1z4 ?h2z4 ?h3z4 ?h4z4 ?h5z4 ?h6z4 ?h7z4 ?h8z4
          case h1z4 => (simp only [List.getElem?_toArray, List.getElem?_cons_succ, List.getElem?_cons_zero]; exact rfl)
          case h2z4 => kernel_rfl
          case h3z4 => kernel_rfl
          case h4z4 => kernel_rfl
          case h5z4 => exact fun _ _ _ h => h
          case h6z4 => (refine Or.inl ⟨by rfl, ?_⟩; intro W' hSw; obtain ⟨s1, s2, s3, s4⟩ := hSw; go_simp; try (with_reducible rfl))
          case h7z4 => assumption
          try simp only [Act.put, List.setIfInBounds_toArray, List.set_cons_zero, List.set_cons_succ]
          refine wpAnyH_take (i := 4) (oi := ?oz5) (v := ?vz5) ?h1z5 ?h2z5 ?h3z5 ?h4z5 ?h5z5 ?h6z5 ?h7z5 ?h8z5
          case h1z5 => (simp only [List.getElem?_toArray, List.getElem?_cons_succ, List.getElem?_cons_zero]; exact rfl)
          case h2z5 => kernel_rfl
          case h3z5 => kernel_rfl
          case h4z5 => kernel_rfl
          case h5z5 => exact fun _ _ _ h => h
          case h6z5 => (refine Or.inl ⟨by rfl, ?_⟩; intro W' hSw; obtain ⟨s1, s2, s3, s4⟩ := hSw; go_simp; try (with_reducible rfl))
          case h7z5 => assumption
          try simp only [Act.put, List.setIfInBounds_toArray, List.set_cons_zero, List.set_cons_succ]
          refine wpAnyH_take (i := 5) (oi := ?oz6) (v := ?vz6) ?h1z6 ?h2z6 ?h3z6 ?h4z6 ?h5z6 ?h6z6 ?h7z6 ?h8z6
          case h1z6 => (simp only [List.getElem?_toArray, List.getElem?_cons_succ, List.getElem?_cons_zero]; exact rfl)
          case h2z6 => kernel_rfl
          case h3z6 => kernel_rfl
          case h4z6 => kernel_rfl
          case h5z6 => exact fun _ _ _ h => h
          case h6z6 => (refine Or.inl ⟨by rfl, ?_⟩; intro W' hSw; obtain ⟨s1, s2, s3, s4⟩ := hSw; go_simp; try (with_reducible rfl))
          case h7z6 => assumption
          try simp only [Act.put, List.setIfInBounds_toArray, List.set_cons_zero, List.set_cons_succ]
          refine wpAnyH_take (i := 6) (oi := ?oz7) (v := ?vz7) ?h1z7 ?h2z7 ?h3z7 ?h4z7 ?h5z7 ?h6z7 ?h7z7 ?h8z7
          case h1z7 => (simp only [List.getElem?_toArray, List.getElem?_cons_succ, List.getElem?_cons_zero]; exact rfl)
          case h2z7 => kernel_rfl
          case h3z7 => kernel_rfl
          case h4z7 => kernel_rfl
          case h5z7 => exact fun _ _ _ h => h
          case h6z7 => (refine Or.inl ⟨by rfl, ?_⟩; intro W' hSw; obtain ⟨s1, s2, s3, s4⟩ := hSw; go_simp; try (with_reducible rfl))
          case h7z7 => assumption
          try simp only [Act.put, List.setIfInBounds_toArray, List.set_cons_zero, List.set_cons_succ]
          refine wpAnyH_take (i := 7) (oi := ?oz8) (v := ?vz8) ?h1z8 ?h2z8 ?h3z8 ?h4z8 ?h5z8 ?h6z8 ?h7z8 ?h8z8
          case h1z8 => (simp only [List.getElem?_toArray, List.getElem?_cons_succ, List.getElem?_cons_zero]; exact rfl)
          case h2z8 => kernel_rfl
          case h3z8 => kernel_rfl
          case h4z8 => kernel_rfl
          case h5z8 => exact fun _ _ _ h => h
          case h6z8 => (refine Or.inl ⟨by rfl, ?_⟩; intro W' hSw; obtain ⟨s1, s2, s3, s4⟩ := hSw; go_simp; try (with_reducible rfl))
          case h7z8 => assumption
          try simp only [Act.put, List.setIfInBounds_toArray, List.set_cons_zero, List.set_cons_succ]
          refine wpAnyH_take (i := 8) (oi := ?oz9) (v := ?vz9) ?h1z9 ?h2z9 ?h3z9 ?h4z9 ?h5z9 ?h6z9 ?h7z9 ?h8z9
          case h1z9 => (simp only [List.getElem?_toArray, List.getElem?_cons_succ, List.getElem?_cons_zero]; exact rfl)
          case h2z9 => kernel_rfl
          case h3z9 => kernel_rfl
          case h4z9 => kernel_rfl
          case h5z9 => exact fun _ _ _ h => h
          case h6z9 => (refine Or.inl ⟨by rfl, ?_⟩; intro W' hSw; obtain ⟨s1, s2, s3, s4⟩ := hSw; go_simp; try (with_reducible rfl))
          case h7z9 => assumption
          try simp only [Act.put, List.setIfInBounds_toArray, List.set_cons_zero, List.set_cons_succ]
          refine wpAnyH_take (i := 11) (oi := ?oz10) (v := ?vz10) ?h1z10 ?h2z10 ?h3z10 ?h4z10 ?h5z10 ?h6z10 ?h7z10 ?h8z10
          case h1z10 => (simp only [List.getElem?_toArray, List.getElem?_cons_succ, List.getElem?_cons_zero]; exact rfl)
          case h2z10 => kernel_rfl
          case h3z10 => kernel_rfl
          case h4z10 => kernel_rfl
          case h5z10 => exact fun _ _ _ h => h
          case h6z10 => (refine Or.inl ⟨by rfl, ?_⟩; intro W' hSw; obtain ⟨s1, s2, s3, s4⟩ := hSw; go_simp; try (with_reducible rfl))
          case h7z10 => assumption
          try simp only [Act.put, List.setIfInBounds_toArray, List.set_cons_zero, List.set_cons_succ]
          refine wpAnyH_take (i := 12) (oi := ?oz11) (v := ?vz11) ?h1z11 ?h2z11 ?h3z11 ?h4z11 ?h5z11 ?h6z11 ?h7z11 ?h8z11
          case h1z11 => (simp only [List.getElem?_toArray, List.getElem?_cons_succ, List.getElem?_cons_zero]; exact rfl)
          case h2z11 => kernel_rfl
          case h3z11 => kernel_rfl
          case h4z11 => kernel_rfl
          case h5z11 => exact fun _ _ _ h => h
          case h6z11 => (refine Or.inl ⟨by rfl, ?_⟩; intro W' hSw; obtain ⟨s1, s2, s3, s4⟩ := hSw; go_simp; try (with_reducible rfl))
          case h7z11 => assumption
          try simp only [Act.put, List.setIfInBounds_toArray, List.set_cons_zero, List.set_cons_succ]
          refine wpAnyH_take (i := 13) (oi := ?oz12) (v := ?vz12) ?h1z12 ?h2z12 ?h3z12 ?h4z12 ?h5z12 ?h6z12 ?h7z12 ?h8z12
          case h1z12 => (simp only [List.getElem?_toArray, List.getElem?_cons_succ, List.getElem?_cons_zero]; exact rfl)
          case h2z12 => kernel_rfl
          case h3z12 => kernel_rfl
          case h4z12 => kernel_rfl
          case h5z12 => exact fun _ _ _ h => h
          case h6z12 => (refine Or.inl ⟨by rfl, ?_⟩; intro W' hSw; obtain ⟨s1, s2, s3, s4⟩ := hSw; go_simp; try (with_reducible rfl))
          case h7z12 => assumption
          try simp only [Act.put, List.setIfInBounds_toArray, List.set_cons_zero, List.set_cons_succ]
          refine wpAnyH_take (i := 14) (oi := ?oz13) (v := ?vz13) ?h1z13 ?h2z13 ?h3z13 ?h4z13 ?h5z13 ?h6z13 ?h7z13 ?h8z13
          case h1z13 => (simp only [List.getElem?_toArray, List.getElem?_cons_succ, List.getElem?_cons_zero]; exact rfl)
          case h2z13 => kernel_rfl
          case h3z13 => kernel_rfl
          case h4z13 => kernel_rfl
          case h5z13 => exact fun _ _ _ h => h
          case h6z13 => (refine Or.inl ⟨by rfl, ?_⟩; intro W' hSw; obtain ⟨s1, s2, s3, s4⟩ := hSw; go_simp; try (with_reducible rfl))
          case h7z13 => assumption
          try simp only [Act.put, List.setIfInBounds_toArray, List.set_cons_zero, List.set_cons_succ]
          refine wpAnyH_take (i := 15) (oi := ?oz14) (v := ?vz14) ?h1z14 ?h2z14 ?h3z14 ?h4z14 ?h5z14 ?h6z14 ?h7z14 ?h8z14
          case h1z14 => (simp only [List.getElem?_toArray, List.getElem?_cons_succ, List.getElem?_cons_zero]; exact rfl)
          case h2z14 => kernel_rfl
          case h3z14 => kernel_rfl
          case h4z14 => kernel_rfl
          case h5z14 => exact fun _ _ _ h => h
          case h6z14 => (refine Or.inl ⟨by rfl, ?_⟩; intro W' hSw; obtain ⟨s1, s2, s3, s4⟩ := hSw; go_simp; try (with_reducible rfl))
          case h7z14 => assumption
          try simp only [Act.put, List.setIfInBounds_toArray, List.set_cons_zero, List.set_cons_succ]
          refine wpAnyH_take (i := 16) (oi := ?oz15) (v := ?vz15) ?h1z15 ?h2z15 ?h3z15 ?h4z15 ?h5z15 ?h6z15 ?h7z15 ?h8z15
          case h1z15 => (simp only [List.getElem?_toArray, List.getElem?_cons_succ, List.getElem?_cons_zero]; exact rfl)
          case h2z15 => kernel_rfl
          case h3z15 => kernel_rfl
          case h4z15 => kernel_rfl
          case h5z15 => exact fun _ _ _ h => h
          case h6z15 => (refine Or.inl ⟨by rfl, ?_⟩; intro W' hSw; obtain ⟨s1, s2, s3, s4⟩ := hSw; go_simp; try (with_reducible rfl))
          case h7z15 => assumption
          try simp only [Act.put, List.setIfInBounds_toArray, List.set_cons_zero, List.set_cons_succ]
          refine wpAnyH_take (i := 17) (oi := ?oz16) (v := ?vz16) ?h1z16 ?h2z16 ?h3z16 ?h4z16 ?h5z16 ?h6z16 ?h7z16 ?h8z16
          case h1z16 => (simp only [List.getElem?_toArray, List.getElem?_cons_succ, List.getElem?_cons_zero]; exact rfl)
          case h2z16 => kernel_rfl
          case h3z16 => kernel_rfl
          case h4z16 => kernel_rfl
          case h5z16 => exact fun _ _ _ h => h
          case h6z16 => (refine Or.inl ⟨by rfl, ?_⟩; intro W' hSw; obtain ⟨s1, s2, s3, s4⟩ := hSw; go_simp; try (with_reducible rfl))
          case h7z16 => assumption
          try simp only [Act.put, List.setIfInBounds_toArray, List.set_cons_zero, List.set_cons_succ]
          refine wpAnyH_take (i := 18) (oi := ?oz17) (v := ?vz17) ?h1z17 ?h2z17 ?h3z17 ?h4z17 ?h5z17 ?h6z17 ?h7z17 ?h8z17
          case h1z17 => (simp only [List.getElem?_toArray, List.getElem?_cons_succ, List.getElem?_cons_zero]; exact rfl)
          case h2z17 => kernel_rfl
          case h3z17 => kernel_rfl
          case h4z17 => kernel_rfl
          case h5z17 => exact fun _ _ _ h => h
          case h6z17 => (refine Or.inl ⟨by rfl, ?_⟩; intro W' hSw; obtain ⟨s1, s2, s3, s4⟩ := hSw; go_simp; try (with_reducible rfl))
          case h7z17 => assumption
          try simp only [Act.put, List.setIfInBounds_toArray, List.set_cons_zero, List.set_cons_succ]
          refine wpAnyH_take (i := 19) (oi := ?oz18) (v := ?vz18) ?h1z18 ?h2z18 ?h3z18 ?h4z18 ?h5z18 ?h6z18 ?h7z18 ?h8z18
          case h1z18 => (simp only [List.getElem?_toArray, List.getElem?_cons_succ, List.getElem?_cons_zero]; exact rfl)
          case h2z18 => kernel_rfl
          case h3z18 => kernel_rfl
          case h4z18 => kernel_rfl
          case h5z18 => exact fun _ _ _ h => h
          case h6z18 => (refine Or.inl ⟨by rfl, ?_⟩; intro W' hSw; obtain ⟨s1, s2, s3, s4⟩ := hSw; go_simp; try (with_reducible rfl))
          case h7z18 => assumption
          try simp only [Act.put, List.setIfInBounds_toArray, List.set_cons_zero, List.set_cons_succ]
          refine wpAnyH_ready (rs := [9, 20]) (by kernel_rfl) (by simp) ?_
          refine AllReadyH.cons (o := ?oz19) ?h1z19 ?h2z19 ?h3z19
          case h1z19 => (simp only [List.getElem?_toArray, List.getElem?_cons_succ, List.getElem?_cons_zero]; exact rfl)
          case' h2z19 => intro K9 hK9
          · go_simp
            refine hK9.out _ _ (HS.out _ ((Qt.refl wr).drew).below) (fun hHeld => ?_)
            clear hK9 K9
            try simp only [Act.put, List.setIfInBounds_toArray, List.set_cons_zero, List.set_cons_succ]
            refine wpAnyH_take (i := 10) (oi := ?oz20) (v := ?vz20) ?h1z20 ?h2z20 ?h3z20 ?h4z20 ?h5z20 ?h6z20 ?h7z20 ?h8z20
            case h1z20 => (simp only [List.getElem?_toArray, List.getElem?_cons_succ, List.getElem?_cons_zero]; exact rfl)
            case h2z20 => kernel_rfl
            case h3z20 => kernel_rfl
            case h4z20 => kernel_rfl
            case h5z20 => exact fun _ _ _ h => h
            case h6z20 => (refine Or.inl ⟨by rfl, ?_⟩; intro W' hSw; obtain ⟨s1, s2, s3, s4⟩ := hSw; go_simp; try (with_reducible rfl))
            case h7z20 => assumption
            try simp only [Act.put, List.setIfInBounds_toArray, List.set_cons_zero, List.set_cons_succ]
            refine wpAnyH_ready (rs := [20]) (by kernel_rfl) (by simp) ?_
            refine AllReadyH.cons (o := ?oz21) ?h1z21 ?h2z21 ?h3z21
            case h1z21 => (simp only [List.getElem?_toArray, List.getElem?_cons_succ, List.getElem?_cons_zero]; exact rfl)
            case' h2z21 => intro K9 hK9
            · go_simp
              refine (HTM.out _).mono ?_
              rintro e w4 ⟨rfl, b4⟩
              have i0 := b4.keep q4
              have i1 := b4.keep q5
              try go_simp
              refine hK9.out _ _ (HS.out _ (((Qt.refl wr).drew).below.next b4)) (fun hHeld => ?_)
              clear hK9 K9
              try simp only [Act.put, List.setIfInBounds_toArray, List.set_cons_zero, List.set_cons_succ]
              refine wpAnyH_ready (rs := [21]) (by kernel_rfl) (by simp) ?_
              refine AllReadyH.cons (o := ?oz22) ?h1z22 ?h2z22 ?h3z22
              case h1z22 => (simp only [List.getElem?_toArray, List.getElem?_cons_succ, List.getElem?_cons_zero]; exact rfl)
              case' h2z22 => intro K9 hK9
              · go_simp
                refine (HPL.out _).mono ?_
                rintro e w5 ⟨rfl, b5⟩
                have y0 := b5.keep i0
                have y1 := b5.keep i1
                have z5 := b5.keepf (show G < w4.heap.size from Nat.lt_of_lt_of_le HGz.out b4.size) (b4.keepf (show G < wr.heap.size from HGz.out) f0)
                have z6 := b5.keepf (show G < w4.heap.size from Nat.lt_of_lt_of_le HGz.out b4.size) (b4.keepf (show G < wr.heap.size from HGz.out) f1)
                try go_simp
                refine hK9.out _ _ (HS.out _ ((((Qt.refl wr).drew).below.next b4).next b5)) (fun hHeld => ?_)
                clear hK9 K9
                try simp only [Act.put, List.setIfInBounds_toArray, List.set_cons_zero, List.set_cons_succ]
                refine wpAnyH_take (i := 22) (oi := ?oz23) (v := ?vz23) ?h1z23 ?h2z23 ?h3z23 ?h4z23 ?h5z23 ?h6z23 ?h7z23 ?h8z23
                case h1z23 => (simp only [List.getElem?_toArray, List.getElem?_cons_succ, List.getElem?_cons_zero]; exact rfl)
                case h2z23 => kernel_rfl
                case h3z23 => kernel_rfl
                case h4z23 => kernel_rfl
                case h5z23 => exact fun _ _ _ h => h
                case h6z23 => (refine Or.inl ⟨by rfl, ?_⟩; intro W' hSw; obtain ⟨s1, s2, s3, s4⟩ := hSw; go_simp; try (with_reducible rfl))
                case h7z23 => assumption
                try simp only [Act.put, List.setIfInBounds_toArray, List.set_cons_zero, List.set_cons_succ]
                refine wpAnyH_ready (rs := [23]) (by kernel_rfl) (by simp) ?_
                refine AllReadyH.cons (o := ?oz24) ?h1z24 ?h2z24 ?h3z24
                case h1z24 => (simp only [List.getElem?_toArray, List.getElem?_cons_succ, List.getElem?_cons_zero]; exact rfl)
                case' h2z24 => intro K9 hK9
                · go_simp
                  refine hK9.out _ _ (HS3.out _ _ ((((Qt.refl wr).drew).below.next b4).next b5)) (fun hHeld => ?_)
                  clear hK9 K9
                  try simp only [Act.put, List.setIfInBounds_toArray, List.set_cons_zero, List.set_cons_succ]
                  refine wpAnyH_done (by kernel_rfl) ?_ _
                  have bw : Below wr.heap.size wr w5 := (((Qt.refl wr).drew).below.next b4).next b5
                  have hown5 := ownsRow_chg HO.out (bw.chg 0 0) (fun _ _ => .inr (Nat.zero_le _))
                  have hs5 := ((hown5.stored (K * 2) (.int .i64 ((s0 + x * y) % p))).1.stored (K * 2 + 1) (.int .i64 p)).1
                  rw [flat_put] at hs5
                  have hB5 : Below w.heap.size w ((w5.setCell ⟨G, K * 2, none⟩ (.int .i64 ((s0 + x * y) % p))).setCell ⟨G, K * 2 + 1, none⟩ (.int .i64 p)) := ((HB.out.next bw).setCell (Nat.le_of_eq HG.out.symm) _).setCell (Nat.le_of_eq HG.out.symm) _
                  have HF := Lib.hid (⟨HST.out, hs5, hB5⟩ : _ ∧ _ ∧ _)
                  clear bw hown5 hs5 hB5 y0 y1 z5 z6 b4 b5 q0 q1 q2 q3 q4 q5 g0 g1 g2 g3 c0 c1 f0 f1 k1 k2
                  go_wp2
                  go_roundw
                  case rel => exact ⟨j+1, _, by omega, by go_num, HF.out⟩
                  case measure => simp [intOf]; omega
                exact AllReadyH.nil
              exact AllReadyH.nil
            exact AllReadyH.nil
          refine AllReadyH.cons (o := ?oz25) ?h1z25 ?h2z25 ?h3z25
          case h1z25 => (simp only [List.getElem?_toArray, List.getElem?_cons_succ, List.getElem?_cons_zero]; exact rfl)
          case' h2z25 => intro K9 hK9
          · go_simp
            refine (HTM.out _).mono ?_
            rintro e w4 ⟨rfl, b4⟩
            have i0 := b4.keep q4
            have i1 := b4.keep q5
            try go_simp
            refine hK9.out _ _ (HS.out _ (((Qt.refl wr).drew).below.next b4)) (fun hHeld => ?_)
            clear hK9 K9
            try simp only [Act.put, List.setIfInBounds_toArray, List.set_cons_zero, List.set_cons_succ]
            refine wpAnyH_ready (rs := [9]) (by kernel_rfl) (by simp) ?_
            refine AllReadyH.cons (o := ?oz26) ?h1z26 ?h2z26 ?h3z26
            case h1z26 => (simp only [List.getElem?_toArray, List.getElem?_cons_succ, List.getElem?_cons_zero]; exact rfl)
            case' h2z26 => intro K9 hK9
            · go_simp
              refine hK9.out _ _ (HS.out _ (((Qt.refl wr).drew).below.next b4)) (fun hHeld => ?_)
              clear hK9 K9
              try simp only [Act.put, List.setIfInBounds_toArray, List.set_cons_zero, List.set_cons_succ]
              refine wpAnyH_take (i := 10) (oi := ?oz27) (v := ?vz27) ?h1z27 ?h2z27 ?h3z27 ?h4z27 ?h5z27 ?h6z27 ?h7z27 ?h8z27
              case h1z27 => (simp only [List.getElem?_toArray, List.getElem?_cons_succ, List.getElem?_cons_zero]; exact rfl)
              case h2z27 => kernel_rfl
              case h3z27 => kernel_rfl
              case h4z27 => kernel_rfl
              case h5z27 => exact fun _ _ _ h => h
              case h6z27 => (refine Or.inl ⟨by rfl, ?_⟩; intro W' hSw; obtain ⟨s1, s2, s3, s4⟩ := hSw; go_simp; try (with_reducible rfl))
              case h7z27 => assumption
              try simp only [Act.put, List.setIfInBounds_toArray, List.set_cons_zero, List.set_cons_succ]
              refine wpAnyH_ready (rs := [21]) (by kernel_rfl) (by simp) ?_
              refine AllReadyH.cons (o := ?oz28) ?h1z28 ?h2z28 ?h3z28
              case h1z28 => (simp only [List.getElem?_toArray, List.getElem?_cons_succ, List.getElem?_cons_zero]; exact rfl)
              case' h2z28 => intro K9 hK9
              · go_simp
                refine (HPL.out _).mono ?_
                rintro e w5 ⟨rfl, b5⟩
                have y0 := b5.keep i0
                have y1 := b5.keep i1
                have z5 := b5.keepf (show G < w4.heap.size from Nat.lt_of_lt_of_le HGz.out b4.size) (b4.keepf (show G < wr.heap.size from HGz.out) f0)
                have z6 := b5.keepf (show G < w4.heap.size from Nat.lt_of_lt_of_le HGz.out b4.size) (b4.keepf (show G < wr.heap.size from HGz.out) f1)
                try go_simp
                refine hK9.out _ _ (HS.out _ ((((Qt.refl wr).drew).below.next b4).next b5)) (fun hHeld => ?_)
                clear hK9 K9
                try simp only [Act.put, List.setIfInBounds_toArray, List.set_cons_zero, List.set_cons_succ]
                refine wpAnyH_take (i := 22) (oi := ?oz29) (v := ?vz29) ?h1z29 ?h2z29 ?h3z29 ?h4z29 ?h5z29 ?h6z29 ?h7z29 ?h8z29
                case h1z29 => (simp only [List.getElem?_toArray, List.getElem?_cons_succ, List.getElem?_cons_zero]; exact rfl)
                case h2z29 => kernel_rfl
                case h3z29 => kernel_rfl
                case h4z29 => kernel_rfl
                case h5z29 => exact fun _ _ _ h => h
                case h6z29 => (refine Or.inl ⟨by rfl, ?_⟩; intro W' hSw; obtain ⟨s1, s2, s3, s4⟩ := hSw; go_simp; try (with_reducible rfl))
                case h7z29 => assumption
                try simp only [Act.put, List.setIfInBounds_toArray, List.set_cons_zero, List.set_cons_succ]
                refine wpAnyH_ready (rs := [23]) (by kernel_rfl) (by simp) ?_
                refine AllReadyH.cons (o := ?oz30) ?h1z30 ?h2z30 ?h3z30
                case h1z30 => (simp only [List.getElem?_toArray, List.getElem?_cons_succ, List.getElem?_cons_zero]; exact rfl)
                case' h2z30 => intro K9 hK9
                · go_simp
                  refine hK9.out _ _ (HS3.out _ _ ((((Qt.refl wr).drew).below.next b4).next b5)) (fun hHeld => ?_)
                  clear hK9 K9
                  try simp only [Act.put, List.setIfInBounds_toArray, List.set_cons_zero, List.set_cons_succ]
                  refine wpAnyH_done (by kernel_rfl) ?_ _
                  have bw : Below wr.heap.size wr w5 := (((Qt.refl wr).drew).below.next b4).next b5
                  have hown5 := ownsRow_chg HO.out (bw.chg 0 0) (fun _ _ => .inr (Nat.zero_le _))
                  have hs5 := ((hown5.stored (K * 2) (.int .i64 ((s0 + x * y) % p))).1.stored (K * 2 + 1) (.int .i64 p)).1
                  rw [flat_put] at hs5
                  have hB5 : Below w.heap.size w ((w5.setCell ⟨G, K * 2, none⟩ (.int .i64 ((s0 + x * y) % p))).setCell ⟨G, K * 2 + 1, none⟩ (.int .i64 p)) := ((HB.out.next bw).setCell (Nat.le_of_eq HG.out.symm) _).setCell (Nat.le_of_eq HG.out.symm) _
                  have HF := Lib.hid (⟨HST.out, hs5, hB5⟩ : _ ∧ _ ∧ _)
                  clear bw hown5 hs5 hB5 y0 y1 z5 z6 b4 b5 q0 q1 q2 q3 q4 q5 g0 g1 g2 g3 c0 c1 f0 f1 k1 k2
                  go_wp2
                  go_roundw
                  case rel => exact ⟨j+1, _, by omega, by go_num, HF.out⟩
                  case measure => simp [intOf]; omega
                exact AllReadyH.nil
              exact AllReadyH.nil
            exact AllReadyH.nil
          exact AllReadyH.nil
        · obtain rfl : j = n2 := by omega
          rw [← HL2.out] at hP
          have HF := Lib.hid (⟨hP.next, hown, hB⟩ : _ ∧ _ ∧ _)
          clear hP hown hB
          go_wp2
          go_roundw
          case rel => exact ⟨i+1, fs2, by omega, by go_num, HF.out⟩
          case measure => simp [intOf]; omega
    · obtain rfl : i = n1 := by omega
      have HF := Lib.hid (⟨hP, hown, hB⟩ : _ ∧ _ ∧ _)
      clear hP hown hB
      go_wp2
      go_ret
      exact ⟨G, fs, rfl, HF.out.1, by rw [← HG.out]; exact HF.out.2.1, HF.out.2.2⟩

end Go.Proofs.Ytolipjemabmlkaa
