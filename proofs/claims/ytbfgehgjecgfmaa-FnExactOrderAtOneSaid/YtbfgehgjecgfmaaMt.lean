/- Products of polynomials without regard to limits, by the model. -/
import Derived.Test.YtbfgehgjecgfmaaBk
import Derived.Test.YtbfgehgjecgfmaaWalkL
import Derived.StillTailTactics
set_option linter.unusedSimpArgs false
set_option linter.unusedVariables false
set_option maxRecDepth 100000
namespace Go.Proofs.Ytbfgehgjecgfmaa
open Go.RowKit

/-- the model's products and sums, as they are reckoned -/
def acW (f g : List Int) (p : Nat) : Nat → Int
  | 0 => 0
  | i + 1 => if i ≤ p ∧ p - i < g.length then wrap64 (acW f g p i + wrap64 (f.getD i 0 * g.getD (p - i) 0)) else acW f g p i
theorem acW_I64 (f g : List Int) (p : Nat) : ∀ i, I64 (acW f g p i)
  | 0 => I64_zero
  | i + 1 => by unfold acW; split; (· exact wrap_I64 _); exact acW_I64 f g p i
def mT (f g : List Int) (N i j : Nat) : List Int := (List.range N).map (fun p => if i ≤ p ∧ p - i < j then acW f g p (i + 1) else acW f g p i)
theorem mT_len (f g : List Int) (N i j : Nat) : (mT f g N i j).length = N := by simp [mT]
theorem mT_get {f g : List Int} {N i j p : Nat} (h : p < N) : (mT f g N i j).getD p 0 = if i ≤ p ∧ p - i < j then acW f g p (i + 1) else acW f g p i := by simp [mT, List.getD, h]
theorem mT_zero (f g : List Int) (N : Nat) : (madeCells #[Value.int .i64 0] N).toList = (mT f g N 0 0).map (Value.int .i64) := by
  rw [toList_madeCells_one]
  apply List.ext_getElem
  · simp [mT]
  · intro q h1 h2
    simp [mT, acW]
theorem mT_next (f g : List Int) (N i : Nat) : mT f g N i g.length = mT f g N (i + 1) 0 := by
  unfold mT
  refine List.map_congr_left fun p hp => ?_
  rw [if_neg (by omega : ¬ (i + 1 ≤ p ∧ p - (i + 1) < 0))]
  by_cases h : i ≤ p ∧ p - i < g.length
  · rw [if_pos h]
  · rw [if_neg h]; conv => rhs; unfold acW
    rw [if_neg h]
theorem mT_set (f g : List Int) (N i j : Nat) (hj : j < g.length) (hp : i + j < N) : ((mT f g N i j).map (Value.int .i64)).set (i + j) (.int .i64 (wrap64 (acW f g (i + j) i + wrap64 (f.getD i 0 * g.getD j 0)))) = (mT f g N i (j + 1)).map (Value.int .i64) := by
  apply List.ext_getElem
  · simp [mT]
  · intro q h1 h2
    have hq : q < N := by simpa [mT] using h2
    rw [List.getElem_set]
    by_cases e : i + j = q
    · subst e
      rw [if_pos rfl]
      simp only [mT, List.getElem_map, List.getElem_range]
      rw [if_pos (by omega)]
      conv => rhs; unfold acW
      rw [if_pos ⟨by omega, by omega⟩]
      have e2 : i + j - i = j := by omega
      rw [e2]
    · rw [if_neg e]
      simp only [mT, List.map_map, List.getElem_map, List.getElem_range, Function.comp]
      have : (i ≤ q ∧ q - i < j) ↔ (i ≤ q ∧ q - i < j + 1) := by omega
      simp only [this]
theorem mT_at {f g : List Int} {N i j : Nat} (hp : i + j < N) : (mT f g N i j).getD (i + j) 0 = acW f g (i + j) i := by
  rw [mT_get hp, if_neg (by omega)]
theorem map_getE {xs : List Int} {j : Nat} (h : j < xs.length) : (xs.map (Value.int .i64))[j]? = some (.int .i64 (xs.getD j 0)) := by simp [List.getD, List.getElem?_eq_getElem h]
theorem own_cap {w : World} {lo g n c : Nat} {xs : List Value} (h : w.ownsRow lo 2 1 (.slice (some ⟨g, 0, none⟩) n c) n xs) (hn : 0 < n) : n ≤ c := by
  rcases h.2 with ⟨h1, _⟩ | ⟨_, _, _, hv, _, _, hle, _⟩
  · omega
  · simp only [Value.slice.injEq] at hv; omega
theorem mT_I64 (f g : List Int) (N i j : Nat) : ∀ x ∈ mT f g N i j, I64 x := fun x hx => by
  unfold mT at hx
  obtain ⟨q, hq, rfl⟩ := List.mem_map.mp hx
  split <;> exact acW_I64 _ _ _ _

set_option maxHeartbeats 3200000 in
theorem l01Times_ne {lo hi lo' hi' : Nat} (n m b off c b' off' c' : Nat) (f g : List Int) (w : World) (hf : RdI lo hi w (.slice (some ⟨b, off, none⟩) n c) f) (hg : RdI lo' hi' w (.slice (some ⟨b', off', none⟩) m c') g) (hn : f.length = n) (hm : g.length = m) (h0 : 0 < n) (h0' : 0 < m) (hn1 : n ≤ 40) (hm1 : m ≤ 40) :
    Calls Try.prog 107 #[.slice (some ⟨b, off, none⟩) n c, .slice (some ⟨b', off', none⟩) m c'] w fun e w' => ∃ a d, e = .returned (.slice a (trim (mT f g (n + m - 1) n 0)).length d) ∧ OwI w.heap.size w'.heap.size w' (.slice a (trim (mT f g (n + m - 1) n 0)).length d) (trim (mT f g (n + m - 1) n 0)) ∧ Below w.heap.size w w' := by
  obtain ⟨i0, hi0, z0, z1, z2⟩ := info_parts Try.info2
  have HCF := Lib.hid (fun W (hB : Below w.heap.size w W) j (hj : j < n) => show W.cell? ⟨b, off + j, none⟩ = some (.int .i64 (f.getD j 0)) by
    obtain ⟨b1, o1, e1, g1⟩ := (hf.below hB).at hn j hj
    simp only [Option.some.injEq, Addr.mk.injEq, and_true] at e1
    obtain ⟨rfl, rfl⟩ := e1
    exact g1)
  have HCG := Lib.hid (fun W (hB : Below w.heap.size w W) j (hj : j < m) => show W.cell? ⟨b', off' + j, none⟩ = some (.int .i64 (g.getD j 0)) by
    obtain ⟨b1, o1, e1, g1⟩ := (hg.below hB).at hm j hj
    simp only [Option.some.injEq, Addr.mk.injEq, and_true] at e1
    obtain ⟨rfl, rfl⟩ := e1
    exact g1)
  have HGM := Lib.hid hm
  obtain ⟨N, hN⟩ : ∃ N, N = n + m - 1 := ⟨_, rfl⟩
  have HN := Lib.hid hN
  have hNI : (n : Int) + (m : Int) - 1 = (N : Int) := by omega
  have hnz : ((n : Int) == 0) = false := by simp; omega
  have hmz : ((m : Int) == 0) = false := by simp; omega
  have p1 : IntKind.i64.wrap ((n : Int) + (m : Int)) = (n : Int) + (m : Int) := IntWalk.i64_in _ (by omega)
  have p2 : wrap64 ((n : Int) + (m : Int)) = (n : Int) + (m : Int) := IntWalk.wrap64_in _ (by clear p1; omega)
  have p3 : IntKind.i64.wrap ((n : Int) + (m : Int) - 1) = (N : Int) := by rw [hNI]; exact IntWalk.i64_in _ (by clear p1 p2; omega)
  have p4 : wrap64 ((n : Int) + (m : Int) - 1) = (N : Int) := by rw [hNI]; exact IntWalk.wrap64_in _ (by clear p1 p2 p3; omega)
  have hN80 : N ≤ 80 := by clear p1 p2 p3 p4; omega
  have hN1 : 0 < N := by clear p1 p2 p3 p4; omega
  have hN0 : (0 : Int) ≤ (N : Int) := by clear p1 p2 p3 p4; omega
  rw [← hN]
  clear hf hg hn hm hN hNI
  go_enter Try.func107, Try.ntmps107
  go_wp2_with (at_make; refine wpList_make_full _ rfl _ _ 26 rfl w.heap.size 2 i0 (.int .i64 0) 1 Try.underlying26 hi0 z0 z1 _ _ _ _ N rfl rfl rfl rfl ?c1 ?c2 ?c3 ?_)
  case c1 => rw [z2]; clear p1 p2 p3 p4; omega
  case c2 => clear p1 p2 p3 p4; unfold maxLen; omega
  case c3 => exact Nat.le_refl _
  clear p1 p2 p3 p4
  intro w1 hown hgr
  rw [mT_zero f g N] at hown
  have hbl : Below w.heap.size w w1 := (Below.refl _ _).grown hgr (Nat.le_refl _) (by simp)
  obtain ⟨G, hG⟩ : ∃ G, G = w.heap.size := ⟨_, rfl⟩
  rw [← hG] at hown ⊢
  have HG := Lib.hid hG
  have HS := Lib.hid (⟨hown, hbl⟩ : _ ∧ _)
  clear hG hown hbl hgr
  go_wp2
  go_loopw [6] (fun v wr => ∃ i : Nat, i ≤ n ∧ v = .int .i64 i ∧ wr.ownsRow G 2 1 (.slice (some ⟨G, 0, none⟩) N N) N ((mT f g N i 0).map (Value.int .i64)) ∧ Below w.heap.size w wr) (fun v _ => n - (intOf v).toNat)
  case atStart => exact ⟨0, Nat.zero_le _, rfl, HS.out⟩
  case round =>
    clear HS
    obtain ⟨i, hi, rfl, hown, hB⟩ := hrel
    by_cases hli : i < n
    · have H1 := Lib.hid (⟨hown, hB⟩ : _ ∧ _)
      clear hown hB
      go_wp2
      go_loopw [7] (fun v wr => ∃ j : Nat, j ≤ m ∧ v = .int .i64 j ∧ wr.ownsRow G 2 1 (.slice (some ⟨G, 0, none⟩) N N) N ((mT f g N i j).map (Value.int .i64)) ∧ Below w.heap.size w wr) (fun v _ => m - (intOf v).toNat)
      case atStart => exact ⟨0, Nat.zero_le _, rfl, H1.out⟩
      case round =>
        rename_i hrel
        clear H1
        obtain ⟨j, hj, rfl, hown, hB⟩ := hrel
        by_cases hlj : j < m
        · obtain ⟨D, hD⟩ : ∃ D, D = i + j := ⟨_, rfl⟩
          have hDN : D < N := by have := HN.out; omega
          have c0 := (hown.cellAt D (by omega)).trans (map_getE (by rw [mT_len]; exact hDN))
          rw [show (mT f g N i j).getD D 0 = acW f g D i by rw [hD]; exact mT_at (by omega)] at c0
          have f0 := hown.frozenAt D
          have c1 := HCF.out wr hB i hli
          have c2 := HCG.out wr hB j hlj
          have hset := mT_set f g N i j (by rw [HGM.out]; exact hlj) (by omega)
          rw [← hD] at hset
          generalize acW f g D i = t0 at c0 hset
          generalize f.getD i 0 = xx at c1 hset
          generalize g.getD j 0 = yy at c2 hset
          obtain ⟨m2, hm2⟩ : ∃ m, m = wrap64 (xx * yy) := ⟨_, rfl⟩
          obtain ⟨u2, hu2⟩ : ∃ s2, s2 = wrap64 (t0 + m2) := ⟨_, rfl⟩
          rw [← hm2, ← hu2] at hset
          have e1 : IntKind.i64.wrap (xx * yy) = m2 := by rw [IntWalk.i64_left, hm2]
          have e2 : wrap64 (xx * yy) = m2 := hm2.symm
          have e3 : IntKind.i64.wrap (t0 + m2) = u2 := by rw [IntWalk.i64_left, hu2]
          have e4 : wrap64 (t0 + m2) = u2 := hu2.symm
          have hDi : (i : Int) + (j : Int) = (D : Int) := by clear e1 e2 e3 e4 hm2 hu2; omega
          have q1 : IntKind.i64.wrap ((i : Int) + (j : Int)) = (D : Int) := by rw [hDi]; exact IntWalk.i64_in _ (by clear e1 e2 e3 e4 hm2 hu2; omega)
          have q2 : wrap64 ((i : Int) + (j : Int)) = (D : Int) := by rw [hDi]; exact IntWalk.wrap64_in _ (by clear e1 e2 e3 e4 hm2 hu2 q1; omega)
          have hD1 : (0 : Int) ≤ (D : Int) := by clear e1 e2 e3 e4 hm2 hu2 q1 q2; omega
          have hD2 : (D : Int) < (N : Int) := by clear e1 e2 e3 e4 hm2 hu2 q1 q2; omega
          have hin : (i : Int) < (n : Int) := by clear e1 e2 e3 e4 hm2 hu2 q1 q2; omega
          have hjm : (j : Int) < (m : Int) := by clear e1 e2 e3 e4 hm2 hu2 q1 q2; omega
          have hownd : wr.drew.ownsRow G 2 1 (.slice (some ⟨G, 0, none⟩) N N) N ((mT f g N i j).map (Value.int .i64)) := ownsRow_chg hown ((Qt.refl wr).drew.chg 0 0) (fun _ _ => .inr (Nat.zero_le _))
          have hsd := (hownd.stored D (.int .i64 u2)).1
          rw [hset] at hsd
          have HFS := Lib.hid (⟨hsd, (hB.drew).setCell (p := ⟨G, D, none⟩) (Nat.le_of_eq HG.out.symm) (.int .i64 u2)⟩ : (wr.drew.setCell ⟨G, D, none⟩ (.int .i64 u2)).ownsRow G 2 1 (.slice (some ⟨G, 0, none⟩) N N) N ((mT f g N i (j + 1)).map (Value.int .i64)) ∧ Below w.heap.size w (wr.drew.setCell ⟨G, D, none⟩ (.int .i64 u2)))
          have d0 : wr.drew.cell? ⟨G, D, none⟩ = some (.int .i64 t0) := c0
          have d1 : wr.drew.frozen? ⟨G, D, none⟩ = false := f0
          clear hm2 hu2 hset hsd hownd hown hB hD hDi
          go_wp2
          go_still_tail 21, (by kernel_rfl)
          change wpList _ _ _ _ _ wr.drew
          clear c0 f0 c1 c2 e1 e2 e3 e4 q1 q2
          generalize wr.drew = Z at HFS d0 d1 ⊢
          go_wp2
          go_roundw
          case rel => exact ⟨j+1, by omega, by go_num, HFS.out⟩
          case measure => simp [intOf]; omega
        · obtain rfl : j = m := by omega
          have hnx := mT_next f g N i
          rw [HGM.out] at hnx
          rw [hnx] at hown
          have HF := Lib.hid (⟨hown, hB⟩ : _ ∧ _)
          clear hown hB hnx
          go_wp2
          go_roundw
          case rel => exact ⟨i+1, by omega, by go_num, HF.out⟩
          case measure => simp [intOf]; omega
    · obtain rfl : i = n := by omega
      have hO := OwI.mk hown (by omega) (mT_I64 f g N i 0)
      have HTR := Lib.hid (l01Trim (.slice (some ⟨G, 0, none⟩) N N) (mT f g N i 0) wr (fun a' n' c' e => by simp only [Value.slice.injEq] at e; omega) (by have := hO.rd; exact this))
      have HB := Lib.hid hB
      clear hown hB hO
      go_wp2_with fail
      refine HTR.out.mono ?_
      rintro e w9 ⟨a9, c9, rfl, o9, b9⟩
      have HO := Lib.hid (⟨OwI.mono o9 (by rw [HG.out]; exact HB.out.size) (Nat.le_refl _), HB.out.next b9⟩ : OwI G _ w9 (.slice a9 (trim (mT f g N i 0)).length c9) (trim (mT f g N i 0)) ∧ _)
      clear o9 b9 HTR
      go_wp2
      go_ret
      exact ⟨a9, c9, rfl, by rw [← HG.out]; exact HO.out.1, HO.out.2⟩

end Go.Proofs.Ytbfgehgjecgfmaa
