/- slices.Sorted at slices.Values: a new list, sorted; isMap. -/
import Derived.Test.YtebgbplhcaocoaaSqA
import Derived.Test.YtebgbplhcaocoaaSortO
import Derived.Test.YtebgbplhcaocoaaRnI
set_option linter.unusedSimpArgs false
set_option linter.unusedVariables false
set_option maxRecDepth 100000
namespace Go.Proofs.Ytebgbplhcaocoaa
open Go.RowKit

set_option maxHeartbeats 1600000 in
theorem bitsLen8 (n : Nat) (w : World) (h1 : 1 ≤ n) (h8 : n ≤ 8) : Calls Try.prog 188 #[.int .u64 n] w fun e w' => (∃ v : Int, e = .returned (.int .i64 v)) ∧ Qt w w' := by
  have hn : n = 1 ∨ n = 2 ∨ n = 3 ∨ n = 4 ∨ n = 5 ∨ n = 6 ∨ n = 7 ∨ n = 8 := by omega
  rcases hn with rfl | rfl | rfl | rfl | rfl | rfl | rfl | rfl
  all_goals
    go_enter Try.func188, Try.ntmps188
    go_wp2_with (go_in)
    go_ret
    exact ⟨⟨_, rfl⟩, Qt.refl _⟩
theorem slSortO8 (lo b n cap : Nat) (xs : List Int) (w : World) (h : OwX lo cap w b n xs) (h1 : 1 ≤ n) (hn : n ≤ 8) :
    Calls Try.prog 184 #[.slice (some ⟨b, 0, none⟩) n cap] w fun e w' => e = .returned (.tuple #[]) ∧ OwX lo cap w' b n (isort xs) ∧ Chg b (b+1) w w' := by
  have hw : IntKind.u64.wrap (n : Int) = (n : Int) := IntWalk.u64_in _ (by omega)
  go_enter Try.func184, Try.ntmps184
  go_wp2_with fail
  refine (bitsLen8 n _ h1 hn).mono ?_
  rintro e w1 ⟨⟨v, rfl⟩, q1⟩
  go_wp2_with fail
  refine (pdqSO lo b n cap xs v _ (h.qt q1) h1 (by omega)).mono ?_
  rintro e w2 ⟨rfl, r2, c2⟩
  go_wp2
  go_end0
  exact ⟨rfl, r2, (q1.chg _ _).trans c2⟩

theorem sortedV (Bs b off len cap : Nat) (zs : List Int) (hl : zs.length = len) (h1 : 1 ≤ len) (h8 : len ≤ 8) (w : World) (hBl : Bs < w.heap.size) (hbl : b < w.heap.size)
    (hBs : w.cell? ⟨Bs, 0, none⟩ = some (.slice (some ⟨b, off, none⟩) len cap)) (hc : ∀ j, j < len → w.cell? ⟨b, off + j, none⟩ = some (.int .i64 (zs[j]?.getD 0))) :
    Calls Try.prog 175 #[.func (.func 185) #[] #[.pointer (some ⟨Bs, 0, none⟩)]] w fun e w' => ∃ g c', e = .returned (.slice (some ⟨g, 0, none⟩) len c') ∧ OwX w.heap.size c' w' g len (isort zs) ∧ Below w.heap.size w w' := by
  have HC := Lib.hid (callsIn_wide.1 (collectV 3 (Nat.le_refl _) Bs b off len cap zs hl (by omega) w hBl hbl hBs hc))
  clear hc hBs hBl hbl
  go_enter Try.func175, Try.ntmps175
  go_wp2_with fail
  refine HC.out.mono ?_
  rintro e w1 ⟨v, rfl, hrow, hb⟩
  obtain ⟨g, c', rfl, hg1, hg2⟩ := hrow.form (by omega)
  have HS := Lib.hid (slSortO8 w.heap.size g len c' zs w1 hrow h1 h8)
  have HB := Lib.hid hb
  clear hrow hb HC
  go_wp2_with fail
  refine HS.out.mono ?_
  rintro e w2 ⟨rfl, o2, c2⟩
  have HF := Lib.hid (⟨o2, HB.out.chgn c2 hg1 HB.out.size⟩ : _ ∧ _)
  clear o2 c2 HS
  go_wp2
  go_ret
  exact ⟨g, c', rfl, HF.out⟩

theorem valuesV (a : Option Addr) (n c : Nat) (w : World) :
    Calls Try.prog 176 #[.slice a n c] w fun e w' => e = .returned (.func (.func 185) #[] #[.pointer (some ⟨w.heap.size, 0, none⟩)]) ∧ w' = w.alloc (.cells #[.slice a n c] 37) := by
  go_enter Try.func176, Try.ntmps176
  go_wp2
  go_ret
  exact ⟨rfl, rfl⟩

set_option maxHeartbeats 1600000 in
theorem isMap : IsMapSaid := by
  intro lo hi a n c t s w h hn h1 h8
  by_cases hl : (n : Int) = s
  case neg =>
    have hb : ((n : Int) != s) = true := by simpa using hl
    have HB := Lib.hid (permB_no_len (s := s) (t := t) (by rw [hn]; exact hl))
    clear hl h hn
    go_enter Try.func141, Try.ntmps141
    go_wp2
    go_ret
    exact ⟨by rw [HB.out]; rfl, Below.refl _ _⟩
  subst hl
  have hb : ((n : Int) != (n : Int)) = false := by simp
  have hn1 : 1 ≤ n := by omega
  have hn8 : n ≤ 8 := by omega
  obtain ⟨b, off, rfl, g0⟩ := h.at hn 0 (by omega)
  have hbw : b < w.heap.size := World.block_lt_of_cell? w _ g0
  have HC := Lib.hid (fun j (hj : j < n) => show w.cell? ⟨b, off + j, none⟩ = some (.int .i64 (t[j]?.getD 0)) by
    obtain ⟨b2, off2, e, g2⟩ := h.at hn j hj
    simp only [Option.some.injEq, Addr.mk.injEq, and_true] at e
    obtain ⟨rfl, rfl⟩ := e
    rw [g2, List.getD_eq_getElem?_getD])
  have HY := Lib.hid (fun (hA : ∀ i, i < n → (isort t).getD i 0 = (i : Int)) => mp_no hn1 hn hA)
  have HNO := Lib.hid (fun i (hi : i < n) (hne : (isort t).getD i 0 ≠ (i : Int)) => show permB (n : Int) t = false from Bool.eq_false_iff.2 fun hp => hne (mp_yes hn1 hp i hi))
  have HT := Lib.hid hn
  generalize permB (n : Int) t = R at HY HNO ⊢
  clear h hn g0
  go_enter Try.func141, Try.ntmps141
  go_wp2_with fail
  refine (valuesV _ n c w).mono ?_
  rintro e w1 ⟨rfl, hw1⟩
  have hb1 : Below w.heap.size w w1 := by rw [hw1]; exact (Below.refl _ _).alloc (Nat.le_refl _) _
  have hs1 : w.heap.size < w1.heap.size := by rw [hw1]; simp
  have hbox : w1.cell? ⟨w.heap.size, 0, none⟩ = some (.slice (some ⟨b, off, none⟩) n c) := by rw [hw1]; go_simp
  have HS := Lib.hid (sortedV w.heap.size b off n c t HT.out hn1 hn8 w1 hs1 (by omega) hbox (fun j hj => hb1.keep (HC.out j hj)))
  have HB1 := Lib.hid hb1
  clear hw1 hb1 hs1 hbox HC
  go_wp2_with fail
  refine HS.out.mono ?_
  rintro e w2 ⟨g, c', rfl, o2, b2⟩
  have HO := Lib.hid (⟨o2, HB1.out.next b2⟩ : _ ∧ _)
  clear o2 b2 HS
  go_wp2
  go_loopw [15] (fun v wr => ∃ k : Nat, k ≤ n ∧ v = .int .i64 k ∧ wr = w2 ∧ Hid (∀ i, i < k → (isort t).getD i 0 = (i : Int))) (fun v _ => n - (intOf v).toNat)
  case atStart => exact ⟨0, Nat.zero_le _, rfl, rfl, Lib.hid (fun i hi => by omega)⟩
  case round =>
    obtain ⟨k, hk, rfl, rfl, HA⟩ := hrel
    by_cases hlt : k < n
    · have g1 := HO.out.1.cell k hlt
      have hno := HNO.out k hlt
      have hkn : (k : Int) < (n : Int) := by omega
      obtain ⟨x, hx⟩ : ∃ x, x = (isort t).getD k 0 := ⟨_, rfl⟩
      rw [← hx] at g1 hno
      by_cases he : x = (k : Int)
      · have hxe : (isort t).getD k 0 = (k : Int) := by rw [← hx]; exact he
        have HA2 := Lib.hid (fun i (hi : i < k + 1) => show (isort t).getD i 0 = (i : Int) by
          by_cases e : i = k
          · subst e; exact hxe
          · exact HA.out i (by omega))
        subst he
        have hbb : ((k : Int) != (k : Int)) = false := by simp
        clear hno hx hxe
        go_wp2
        go_roundw
        case rel => exact ⟨k+1, by omega, by go_num, by first | trivial | rfl, HA2⟩
        case measure => simp [intOf]; omega
      · have HF := Lib.hid (hno he)
        have hbb : (x != (k : Int)) = true := by simpa using he
        clear hno hx he
        go_wp2
        go_ret
        exact ⟨by rw [HF.out]; rfl, HO.out.2⟩
    · obtain rfl : k = n := by omega
      have HF := Lib.hid (HY.out HA.out)
      go_wp2
      go_ret
      exact ⟨by rw [HF.out]; rfl, HO.out.2⟩

theorem implRnF {lo hi lo1 hi1 : Nat} (s : Int) (a : Option Addr) (n c : Nat) (xss : List (List Int)) (a1 : Option Addr) (n1 c1 : Nat) (xs : List Int) (w : World) (h : RdR lo hi w (.slice a n c) xss) (hn : xss.length = n) (h1 : RdI lo1 hi1 w (.slice a1 n1 c1) xs) (hl : xs.length = n1) :
    Calls Try.prog 93 #[.agg #[.int .i64 s, .slice a n c], .slice a1 n1 c1] w fun e w' => ∃ a' c', e = .returned (.tuple #[.agg #[.int .i64 (rnOf s xss xs).1.1, .slice a' (rnOf s xss xs).1.2.length c'], .int .i64 (rnOf s xss xs).2]) ∧ OwR w.heap.size w'.heap.size w' (.slice a' (rnOf s xss xs).1.2.length c') (rnOf s xss xs).1.2 ∧ Below w.heap.size w w' :=
  implRn isMap s a n c xss a1 n1 c1 xs w h hn h1 hl

end Go.Proofs.Ytebgbplhcaocoaa
