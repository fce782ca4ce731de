/- IsBipartite: both try all choices of colours. -/
import Derived.Test.YtecobmmlpoaggaaRowsMore
import Derived.Test.YtecobmmlpoaggaaImplDegrees
set_option linter.unusedSimpArgs false
set_option linter.unusedVariables false
namespace Go.Proofs.Ytecobmmlpoaggaa
open Go.RowKit

def sb (c x : Int) : Int := bits .and .i64 (c / 2 ^ x.toNat) 1
def sepE (c : Int) (e : List Int) : Bool := !(sb c (e.getD 0 0) == sb c (e.getD 1 0))
def sepB (c : Int) (xss : List (List Int)) : Bool := xss.all (sepE c)
def bipB (m : Nat) (xss : List (List Int)) : Bool := (List.range m).any (fun c : Nat => sepB (c : Int) xss)
def bipartite (s : Int) (xss : List (List Int)) : Bool × Int := if grB s xss then (bipB (2 ^ s.toNat) xss, 0) else (false, 1)

theorem edges_cells {B n c' : Nat} {a' : Option Addr} {w1 : World} {xss : List (List Int)} (ho : w1.ownsRow B 64 2 (.slice a' n c') n (flat (pairs xss))) (hn : xss.length = n) :
    ∀ j, j < n → ∃ b, a' = some ⟨b, 0, none⟩ ∧ w1.cell? ⟨b, j * 2, none⟩ = some (.int .i64 ((xss.getD j []).getD 0 0)) ∧ w1.cell? ⟨b, j * 2 + 1, none⟩ = some (.int .i64 ((xss.getD j []).getD 1 0)) := by
  intro j hj
  obtain ⟨g, cap, hv, _, _⟩ := ho.form (by omega)
  simp only [Value.slice.injEq] at hv
  obtain ⟨rfl, _, rfl⟩ := hv
  obtain ⟨f1, f2⟩ := flat_get xss j (by omega)
  exact ⟨g, rfl, (ho.cellAt (j * 2) (by omega)).trans f1, (ho.cellAt (j * 2 + 1) (by omega)).trans f2⟩

set_option maxHeartbeats 800000 in
theorem separates {lo hi : Nat} (cc s : Int) (a : Option Addr) (n c : Nat) (xss : List (List Int)) (w : World) (h : RdR lo hi w (.slice a n c) xss) (hg : grB s xss = true) (hn : xss.length = n) (h0 : 0 ≤ cc) (h1 : cc ≤ 255) :
    Calls Try.prog 62 #[.int .i64 cc, .agg #[.int .i64 s, .slice a n c]] w fun e w' => e = .returned (.bool (sepB cc xss)) ∧ Below w.heap.size w w' := by
  have hb0 : ∀ o, Below w.heap.size w (w.alloc o) := fun o => (Below.refl _ _).alloc (Nat.le_refl _) o
  obtain ⟨hs1, hs2, h3, h4⟩ := grB_iff hg
  have HG := Lib.hid hg
  have HN := Lib.hid hn
  have H4 := Lib.hid h4
  have hn10 : n ≤ 10 := by omega
  clear hg hn h4
  go_enter Try.func62, Try.ntmps62
  go_wp2_with fail
  refine (edgesOf s a n c xss _ (h.below (hb0 _)) HG.out HN.out).mono ?_
  rintro e w1 ⟨a', c', rfl, ho, b1⟩
  have hB := (hb0 _).next b1
  have hc := edges_cells ho HN.out
  have HC := Lib.hid hc
  clear ho b1 hc
  go_wp2
  go_loopw [10, 6] (fun i _ wr => ∃ k : Nat, k ≤ n ∧ i = .int .i64 k ∧ Below w.heap.size w wr ∧ Below w1.heap.size w1 wr ∧ (xss.take k).all (sepE cc) = true) (fun i _ _ => n - (intOf i).toNat)
  case atStart => exact ⟨0, Nat.zero_le _, rfl, hB, Below.refl _ _, rfl⟩
  case round =>
    clear hB
    obtain ⟨k, hk, rfl, hB, hB1, ht⟩ := hrel
    have HT := Lib.hid ht
    clear ht
    by_cases hlt : k < n
    · obtain ⟨b, rfl, e0, e1⟩ := HC.out k hlt
      replace e0 := hB1.keep e0
      replace e1 := hB1.keep e1
      have hlt' : k < xss.length := by rw [HN.out]; exact hlt
      obtain ⟨q1, q2, q3, q4, q5⟩ := H4.out k hlt'
      have hse : sepE cc (xss.getD k []) = !(sb cc ((xss.getD k []).getD 0 0) == sb cc ((xss.getD k []).getD 1 0)) := rfl
      generalize hx0 : (xss.getD k []).getD 0 0 = x0 at *
      generalize hx1 : (xss.getD k []).getD 1 0 = x1 at *
      have HSE := Lib.hid hse
      clear hx0 hx1 q1 hse
      have x07 : x0 ≤ 7 := by omega
      have x17 : x1 ≤ 7 := by omega
      go_wp2
      go_quiet (fail)
      go_wp2
      · have h : (sb cc x0 == sb cc x1) = true := by assumption
        have hw := hB.alloc hB.size (.cells #[.int .i64 x0, .int .i64 x1] 64)
        go_ret
        exact ⟨by rw [sepB, all_not hlt' (by rw [HSE.out, h]; rfl)]; rfl, hw.drewN _⟩
      · have h : (sb cc x0 == sb cc x1) = false := by assumption
        have hw := hB.alloc hB.size (.cells #[.int .i64 x0, .int .i64 x1] 64)
        have hw1 := hB1.alloc hB1.size (.cells #[.int .i64 x0, .int .i64 x1] 64)
        go_roundw
        case rel => exact ⟨k+1, by omega, by go_num, hw.drewN _, hw1.drewN _, all_take hlt' HT.out (by rw [HSE.out, h]; rfl)⟩
        case measure => simp [intOf]; omega
    · go_wp2
      go_ret
      obtain rfl : k = n := by omega
      have e1 : xss.take k = xss := List.take_of_length_le (by rw [HN.out]; exact Nat.le_refl _)
      have e2 := HT.out
      rw [e1] at e2
      exact ⟨by rw [sepB, e2]; rfl, hB⟩

theorem any_not_take {m k : Nat} {f : Nat → Bool} (h : (List.range k).any f = false) (e : f k = false) : (List.range (k+1)).any f = false := by
  rw [List.range_succ, List.any_append, h]; simp [e]
theorem any_yes {m k : Nat} {f : Nat → Bool} (h : k < m) (e : f k = true) : (List.range m).any f = true := by
  rw [List.any_eq_true]; exact ⟨k, List.mem_range.2 h, e⟩
theorem two_pow {s : Int} (h1 : 1 ≤ s) (h2 : s ≤ 8) : ∃ m : Nat, 2 ^ s.toNat = m ∧ m ≤ 256 ∧ wrap64 ((2 : Int) ^ s.toNat) = (m : Int) := by
  obtain ⟨t, rfl⟩ : ∃ t : Nat, s = t := ⟨s.toNat, by omega⟩
  have : t = 1 ∨ t = 2 ∨ t = 3 ∨ t = 4 ∨ t = 5 ∨ t = 6 ∨ t = 7 ∨ t = 8 := by omega
  rcases this with rfl | rfl | rfl | rfl | rfl | rfl | rfl | rfl <;> exact ⟨_, rfl, by decide, by decide +kernel⟩

theorem all_succ {xss : List (List Int)} {k : Nat} {f : List Int → Bool} (hk : k < xss.length) : (xss.take (k+1)).all f = ((xss.take k).all f && f (xss.getD k [])) := by
  rw [List.take_add_one, List.all_append, List.getElem?_eq_getElem hk]
  simp [List.getD, List.getElem?_eq_getElem hk]
theorem all_take_no {xss : List (List Int)} {k : Nat} {f : List Int → Bool} (h : (xss.take k).all f = false) : xss.all f = false := by
  rw [List.all_eq_false] at h ⊢
  obtain ⟨x, hx, e⟩ := h
  exact ⟨x, List.mem_of_mem_take hx, e⟩

set_option maxHeartbeats 800000 in
theorem implBip_yes {lo hi : Nat} (s : Int) (a : Option Addr) (n c : Nat) (xss : List (List Int)) (w : World) (h : RdR lo hi w (.slice a n c) xss) (hg : grB s xss = true) (hn : xss.length = n) :
    Calls Try.prog 19 #[.agg #[.int .i64 s, .slice a n c]] w fun e w' => e = .returned (.tuple #[.bool (bipB (2 ^ s.toNat) xss), .int .i64 0]) ∧ Below w.heap.size w w' := by
  have hb0 : ∀ o, Below w.heap.size w (w.alloc o) := fun o => (Below.refl _ _).alloc (Nat.le_refl _) o
  obtain ⟨hs1, hs2, h3, h4⟩ := grB_iff hg
  have HG := Lib.hid hg
  have HN := Lib.hid hn
  obtain ⟨m, hm1, hm2, hm3⟩ := two_pow hs1 hs2
  have HM1 := Lib.hid hm1
  have HM3 := Lib.hid hm3
  clear hg hn h4 hm1 hm3
  go_enter Try.func19, Try.ntmps19
  go_wp2_with fail
  refine calls_gen (fun W => Below w.heap.size w W ∧ w.heap.size < W.heap.size ∧ W.cell? ⟨w.heap.size, 0, none⟩ = some (.int .i64 s) ∧ W.cell? ⟨w.heap.size, 1, none⟩ = some (.slice a n c)) ⟨hb0 _, by simp, by go_simp, by go_simp⟩ ?_
  rintro W ⟨hB, hz, k1, k2⟩
  refine (implIsGraph s a n c xss W (h.below hB) HN.out).mono ?_
  rw [HG.out]
  rintro e w1 ⟨rfl, b1⟩
  replace k1 := b1.keep k1
  replace k2 := b1.keep k2
  replace hB := hB.next b1
  clear b1
  go_wp2
  rw [HM3.out]
  go_loopw [11, 4] (fun i _ wr => ∃ k : Nat, k ≤ m ∧ i = .int .i64 k ∧ Below w.heap.size w wr ∧ wr.cell? ⟨w.heap.size, 0, none⟩ = some (.int .i64 s) ∧ wr.cell? ⟨w.heap.size, 1, none⟩ = some (.slice a n c) ∧ (List.range k).any (fun c : Nat => sepB (c : Int) xss) = false) (fun i _ _ => m - (intOf i).toNat)
  case atStart => exact ⟨0, Nat.zero_le _, rfl, hB, k1, k2, rfl⟩
  case round =>
    clear hB k1 k2
    obtain ⟨k, hk, rfl, hB, k1, k2, ht⟩ := hrel
    have HT := Lib.hid ht
    clear ht
    by_cases hlt : k < m
    · go_wp2_with fail
      refine (separates (k : Int) s a n c xss _ (h.below hB) HG.out HN.out (by omega) (by omega)).mono ?_
      rintro e w2 ⟨rfl, b2⟩
      replace k1 := b2.keep k1
      replace k2 := b2.keep k2
      replace hB := hB.next b2
      clear b2
      generalize hbb : sepB (k : Int) xss = bb
      have HBB := Lib.hid hbb
      clear hbb
      cases bb with
      | true =>
        go_wp2
        go_ret2
        exact ⟨by rw [HM1.out, bipB, any_yes hlt HBB.out]; rfl, hB⟩
      | false =>
        go_wp2
        go_roundw
        case rel => exact ⟨k+1, by omega, by go_num, hB, k1, k2, any_not_take (m := m) HT.out HBB.out⟩
        case measure => simp [intOf]; omega
    · go_wp2
      go_ret2
      obtain rfl : k = m := by omega
      exact ⟨by rw [HM1.out, bipB, HT.out]; rfl, hB⟩


theorem implBip_no {lo hi : Nat} (s : Int) (a : Option Addr) (n c : Nat) (xss : List (List Int)) (w : World) (h : RdR lo hi w (.slice a n c) xss) (hn : xss.length = n) (hg : grB s xss = false) :
    Calls Try.prog 19 #[.agg #[.int .i64 s, .slice a n c]] w fun e w' => e = .returned (.tuple #[.bool false, .int .i64 1]) ∧ Below w.heap.size w w' := by
  have hb0 : ∀ o, Below w.heap.size w (w.alloc o) := fun o => (Below.refl _ _).alloc (Nat.le_refl _) o
  go_enter Try.func19, Try.ntmps19
  go_wp2_with fail
  refine calls_gen (fun W => Below w.heap.size w W) (hb0 _) ?_
  intro W hB
  refine (implIsGraph s a n c xss W (h.below hB) hn).mono ?_
  rw [hg]
  rintro e w1 ⟨rfl, b1⟩
  replace hB := hB.next b1
  go_wp2
  go_ret2
  exact ⟨rfl, hB⟩

theorem implBip {lo hi : Nat} (s : Int) (a : Option Addr) (n c : Nat) (xss : List (List Int)) (w : World) (h : RdR lo hi w (.slice a n c) xss) (hn : xss.length = n) :
    Calls Try.prog 19 #[.agg #[.int .i64 s, .slice a n c]] w fun e w' => e = .returned (.tuple #[.bool (bipartite s xss).1, .int .i64 (bipartite s xss).2]) ∧ Below w.heap.size w w' := by
  cases hg : grB s xss with
  | false => exact (implBip_no s a n c xss w h hn hg).mono fun e w' ⟨he, hb⟩ => ⟨by rw [he]; simp [bipartite, hg], hb⟩
  | true => exact (implBip_yes s a n c xss w h hg hn).mono fun e w' ⟨he, hb⟩ => ⟨by rw [he]; simp [bipartite, hg], hb⟩

set_option maxHeartbeats 1600000 in
theorem l01Bipartite {lo hi : Nat} (s : Int) (a : Option Addr) (n c : Nat) (xss : List (List Int)) (w : World) (h : RdR lo hi w (.slice a n c) xss) (hg : grB s xss = true) (hn : xss.length = n) :
    Calls Try.prog 59 #[.agg #[.int .i64 s, .slice a n c]] w fun e w' => e = .returned (.bool (bipB (2 ^ s.toNat) xss)) ∧ Below w.heap.size w w' := by
  have hb0 : ∀ o, Below w.heap.size w (w.alloc o) := fun o => (Below.refl _ _).alloc (Nat.le_refl _) o
  obtain ⟨hs1, hs2, h3, h4⟩ := grB_iff hg
  have HN := Lib.hid hn
  have H4 := Lib.hid h4
  have hc := h.at hn
  have HC := Lib.hid hc
  have hn10 : n ≤ 10 := by omega
  obtain ⟨m, hm1, hm2, hm3⟩ := two_pow hs1 hs2
  have HM1 := Lib.hid hm1
  have HM3 := Lib.hid hm3
  clear hg hn h4 hm1 hm3 hc h
  go_enter Try.func59, Try.ntmps59
  go_wp2
  go_loopw [3, 4, 5, 6, 7] (fun i _ _ _ _ wr => ∃ k : Nat, k ≤ m ∧ i = .int .i64 k ∧ Qt (w.alloc (.cells #[.int .i64 s, .slice a n c] 28)) wr ∧ (List.range k).any (fun c : Nat => sepB (c : Int) xss) = false) (fun i _ _ _ _ _ => m - (intOf i).toNat)
  case atStart => exact ⟨0, Nat.zero_le _, rfl, Qt.refl _, rfl⟩
  case round =>
    obtain ⟨k, hk, rfl, hq, ht⟩ := hrel
    have HT := Lib.hid ht
    have k1 : wr.cell? ⟨w.heap.size, 0, none⟩ = some (.int .i64 s) := hq.cell (by go_simp)
    have k2 : wr.cell? ⟨w.heap.size, 1, none⟩ = some (.slice a n c) := hq.cell (by go_simp)
    clear ht
    have hm3 := HM3.out
    by_cases hlt : k < m
    · go_wp2
      go_loopw [4, 5, 6, 7] (fun g i _ _ wr => ∃ j : Nat, j ≤ n ∧ i = .int .i64 j ∧ g = .bool ((xss.take j).all (sepE k)) ∧ Qt (w.alloc (.cells #[.int .i64 s, .slice a n c] 28)) wr) (fun _ i _ _ _ => n - (intOf i).toNat)
      case atStart => exact ⟨0, Nat.zero_le _, rfl, rfl, hq⟩
      case round =>
        clear hq k1 k2
        obtain ⟨j, hj, rfl, rfl, hq⟩ := hrel
        have hb1 := (hb0 (.cells #[.int .i64 s, .slice a n c] 28)).qt hq
        have k1 : wr.cell? ⟨w.heap.size, 0, none⟩ = some (.int .i64 s) := hq.cell (by go_simp)
        have k2 : wr.cell? ⟨w.heap.size, 1, none⟩ = some (.slice a n c) := hq.cell (by go_simp)
        generalize hbb : (xss.take j).all (sepE k) = bb
        have HBB := Lib.hid hbb
        clear hbb
        cases bb with
        | false =>
          have hno : sepB k xss = false := all_take_no HBB.out
          by_cases hlj : j < n
          · go_wp2
            go_roundw
            case rel => exact ⟨k+1, by omega, by go_num, hq, any_not_take (m := m) HT.out hno⟩
            case measure => simp [intOf]; omega
          · go_wp2
            go_roundw
            case rel => exact ⟨k+1, by omega, by go_num, hq, any_not_take (m := m) HT.out hno⟩
            case measure => simp [intOf]; omega
        | true =>
          by_cases hlj : j < n
          · obtain ⟨b, off, rv, rfl, h1, r1⟩ := HC.out j hlj
            replace h1 := hb1.keep h1
            replace r1 := r1.below hb1
            have hlt' : j < xss.length := by rw [HN.out]; exact hlj
            obtain ⟨q1, q2, q3, q4, q5⟩ := H4.out j hlt'
            obtain ⟨b', off', cap', rfl, g1, g2⟩ := r1.two q1
            have hse : sepE (k : Int) (xss.getD j []) = !(sb k ((xss.getD j []).getD 0 0) == sb k ((xss.getD j []).getD 1 0)) := rfl
            generalize hx0 : (xss.getD j []).getD 0 0 = x0 at *
            generalize hx1 : (xss.getD j []).getD 1 0 = x1 at *
            have HSE := Lib.hid hse
            have HQ := Lib.hid hq
            clear hx0 hx1 q1 hse r1 hq
            have x07 : x0 ≤ 7 := by omega
            have x17 : x1 ≤ 7 := by omega
            go_wp2
            go_quiet (fail)
            go_wp2
            go_roundw
            case rel => exact ⟨j+1, by omega, by go_num, by rw [all_succ hlt', HBB.out, HSE.out]; rfl, HQ.out.drewN _⟩
            case measure => simp [intOf]; omega
          · go_wp2
            go_ret
            obtain rfl : j = n := by omega
            have e1 : xss.take j = xss := List.take_of_length_le (by rw [HN.out]; exact Nat.le_refl _)
            have e2 := HBB.out
            rw [e1] at e2
            exact ⟨by rw [HM1.out, bipB, any_yes hlt e2]; rfl, hb1⟩
    · go_wp2
      go_ret
      obtain rfl : k = m := by omega
      exact ⟨by rw [HM1.out, bipB, HT.out]; rfl, (hb0 _).qt hq⟩

theorem specBip_no {lo hi : Nat} (s : Int) (a : Option Addr) (n c : Nat) (xss : List (List Int)) (w : World) (h : RdR lo hi w (.slice a n c) xss) (hn : xss.length = n) (hg : grB s xss = false) :
    Calls Try.prog 17 #[.agg #[.int .i64 s, .slice a n c]] w fun e w' => e = .returned (.tuple #[.bool false, .int .i64 1]) ∧ Below w.heap.size w w' := by
  have hb0 : ∀ o, Below w.heap.size w (w.alloc o) := fun o => (Below.refl _ _).alloc (Nat.le_refl _) o
  go_enter Try.func17, Try.ntmps17
  go_wp2_with fail
  refine calls_gen (fun W => Below w.heap.size w W) (hb0 _) ?_
  intro W hB
  refine (l01Is s a n c xss W (h.below hB) hn).mono ?_
  rw [hg]
  rintro e w1 ⟨rfl, b1⟩
  replace hB := hB.next b1
  go_wp2
  go_ret2
  exact ⟨rfl, hB⟩

theorem specBip_yes {lo hi : Nat} (s : Int) (a : Option Addr) (n c : Nat) (xss : List (List Int)) (w : World) (h : RdR lo hi w (.slice a n c) xss) (hg : grB s xss = true) (hn : xss.length = n) :
    Calls Try.prog 17 #[.agg #[.int .i64 s, .slice a n c]] w fun e w' => e = .returned (.tuple #[.bool (bipB (2 ^ s.toNat) xss), .int .i64 0]) ∧ Below w.heap.size w w' := by
  have hb0 : ∀ o, Below w.heap.size w (w.alloc o) := fun o => (Below.refl _ _).alloc (Nat.le_refl _) o
  have HG := Lib.hid hg
  have HN := Lib.hid hn
  clear hg hn
  go_enter Try.func17, Try.ntmps17
  go_wp2_with fail
  refine calls_gen (fun W => Below w.heap.size w W ∧ w.heap.size < W.heap.size ∧ W.cell? ⟨w.heap.size, 0, none⟩ = some (.int .i64 s) ∧ W.cell? ⟨w.heap.size, 1, none⟩ = some (.slice a n c)) ⟨hb0 _, by simp, by go_simp, by go_simp⟩ ?_
  rintro W ⟨hB, hz, k1, k2⟩
  refine (l01Is s a n c xss W (h.below hB) HN.out).mono ?_
  rw [HG.out]
  rintro e w1 ⟨rfl, b1⟩
  replace k1 := b1.keep k1
  replace k2 := b1.keep k2
  replace hB := hB.next b1
  clear b1
  go_wp2_with fail
  refine (l01Bipartite s a n c xss _ (h.below hB) HG.out HN.out).mono ?_
  rintro e w2 ⟨rfl, b2⟩
  replace hB := hB.next b2
  generalize hbb : bipB (2 ^ s.toNat) xss = bb
  have HBB := Lib.hid hbb
  clear hbb b2 k1 k2
  go_wp2
  go_ret2
  exact ⟨by rw [HBB.out]; rfl, hB⟩

theorem specBip {lo hi : Nat} (s : Int) (a : Option Addr) (n c : Nat) (xss : List (List Int)) (w : World) (h : RdR lo hi w (.slice a n c) xss) (hn : xss.length = n) :
    Calls Try.prog 17 #[.agg #[.int .i64 s, .slice a n c]] w fun e w' => e = .returned (.tuple #[.bool (bipartite s xss).1, .int .i64 (bipartite s xss).2]) ∧ Below w.heap.size w w' := by
  cases hg : grB s xss with
  | false => exact (specBip_no s a n c xss w h hn hg).mono fun e w' ⟨he, hb⟩ => ⟨by rw [he]; simp [bipartite, hg], hb⟩
  | true => exact (specBip_yes s a n c xss w h hg hn).mono fun e w' ⟨he, hb⟩ => ⟨by rw [he]; simp [bipartite, hg], hb⟩

end Go.Proofs.Ytecobmmlpoaggaa
