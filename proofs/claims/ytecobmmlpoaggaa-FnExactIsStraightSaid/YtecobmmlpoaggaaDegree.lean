/- The degree of a vertex, as the model counts it. -/
import Derived.Test.YtecobmmlpoaggaaIsGraph3
set_option linter.unusedSimpArgs false
set_option linter.unusedVariables false
namespace Go.Proofs.Ytecobmmlpoaggaa
open Go.RowKit

def one (b : Bool) : Int := if b then 1 else 0
def dg (v : Int) (e : List Int) : Int := one (e.getD 0 0 == v) + one (e.getD 1 0 == v)
def deg (xss : List (List Int)) (v : Int) : Int := (xss.map (dg v)).sum
theorem one_bd (b : Bool) : 0 ≤ one b ∧ one b ≤ 1 := by cases b <;> simp [one]
theorem deg_step {xss : List (List Int)} {k : Nat} (h : k < xss.length) (v : Int) : deg (xss.take (k+1)) v = deg (xss.take k) v + dg v (xss.getD k []) := by
  unfold deg
  rw [List.take_add_one, List.getElem?_eq_getElem h, List.map_append, List.sum_append]
  simp [List.getD, List.getElem?_eq_getElem h]
theorem deg_bd (xss : List (List Int)) (v : Int) : 0 ≤ deg xss v ∧ deg xss v ≤ 2 * xss.length := by
  unfold deg
  induction xss with
  | nil => simp
  | cons e r ih =>
    have h1 := one_bd (e.getD 0 0 == v)
    have h2 := one_bd (e.getD 1 0 == v)
    simp only [List.map_cons, List.sum_cons, List.length_cons]
    have : dg v e = one (e.getD 0 0 == v) + one (e.getD 1 0 == v) := rfl
    omega

theorem grB_iff {s : Int} {xss : List (List Int)} (h : grB s xss = true) : 1 ≤ s ∧ s ≤ 8 ∧ xss.length ≤ 10 ∧ ∀ j, j < xss.length → (xss.getD j []).length = 2 ∧ 0 ≤ (xss.getD j []).getD 0 0 ∧ (xss.getD j []).getD 0 0 < s ∧ 0 ≤ (xss.getD j []).getD 1 0 ∧ (xss.getD j []).getD 1 0 < s := by
  unfold grB at h
  simp only [Bool.and_eq_true, decide_eq_true_eq, List.all_eq_true] at h
  obtain ⟨h1, h2, h3, h4⟩ := h
  refine ⟨h1, h2, h3, fun j hj => ?_⟩
  have := h4 _ (List.getElem_mem hj)
  have e : xss.getD j [] = xss[j] := by simp [List.getD, List.getElem?_eq_getElem hj]
  rw [e]
  simp only [edgeOk, inR, Bool.and_eq_true, decide_eq_true_eq] at this
  omega

set_option maxHeartbeats 1600000 in
theorem degree_ne (n b off cap : Nat) (s v : Int) (xss : List (List Int)) {lo hi : Nat} (w : World) (hn : n ≤ 10) (hx : xss.length = n) (h2 : ∀ j, j < n → (xss.getD j []).length = 2)
    (hc : ∀ j, j < n → ∃ rv, w.cell? ⟨b, off + j, none⟩ = some rv ∧ RdI lo hi w rv (xss.getD j [])) :
    Calls Try.prog 107 #[.agg #[.int .i64 s, .slice (some ⟨b, off, none⟩) n cap], .int .i64 v] w fun e w' => e = .returned (.int .i64 (deg xss v)) ∧ Below w.heap.size w w' := by
  have hb0 : ∀ o, Below w.heap.size w (w.alloc o) := fun o => (Below.refl _ _).alloc (Nat.le_refl _) o
  have HX := Lib.hid hx
  have HC := Lib.hid hc
  have H2 := Lib.hid h2
  clear hx hc h2
  go_enter Try.func107, Try.ntmps107
  go_wp2
  go_loopw [5, 6] (fun c i wr => ∃ k : Nat, k ≤ n ∧ i = .int .i64 k ∧ c = .int .i64 (deg (xss.take k) v) ∧ Qt (w.alloc (.cells #[.int .i64 s, .slice (some ⟨b, off, none⟩) n cap] 28)) wr) (fun _ i _ => n - (intOf i).toNat)
  case atStart => exact ⟨0, Nat.zero_le _, rfl, by simp [deg], Qt.refl _⟩
  case round =>
    obtain ⟨k, hk, rfl, rfl, hq⟩ := hrel
    have hb1 := (hb0 (.cells #[.int .i64 s, .slice (some ⟨b, off, none⟩) n cap] 28)).qt hq
    have k2 : wr.cell? ⟨w.heap.size, 1, none⟩ = some (.slice (some ⟨b, off, none⟩) n cap) := hq.cell (by go_simp)
    have HQ := Lib.hid hq
    clear hq
    by_cases hlt : k < n
    · obtain ⟨rv, h1, r1⟩ := HC.out k hlt
      replace h1 := hb1.keep h1
      replace r1 := r1.below hb1
      have hlt' : k < xss.length := by rw [HX.out]; exact hlt
      obtain ⟨b', off', cap', rfl, g1, g2⟩ := r1.two (H2.out k hlt)
      have hst := deg_step hlt' v
      have hbd := deg_bd (xss.take k) v
      have hlk : (xss.take k).length ≤ k := List.length_take_le _ _
      have hdg : dg v (xss.getD k []) = one ((xss.getD k []).getD 0 0 == v) + one ((xss.getD k []).getD 1 0 == v) := rfl
      rw [hdg] at hst
      generalize hx0 : (xss.getD k []).getD 0 0 = x0 at *
      generalize hx1 : (xss.getD k []).getD 1 0 = x1 at *
      generalize hd : deg (xss.take k) v = d at *
      have HST := Lib.hid hst
      have hd2 : d ≤ 20 := by omega
      have hd1 : 0 ≤ d := hbd.1
      have HB := hb1
      clear hx0 hx1 r1 hst hdg hbd hlk hd hb1
      have b1 := one_bd (x0 == v)
      cases e0 : (x0 == v) <;> cases e1 : (x1 == v)
      all_goals
        go_wp2
        refine wp_loop_rounds 3 ?_
        rw [rounds_succ]
        go_wp2
        rw [rounds_succ]
        go_wp2
        rw [rounds_succ]
        go_wp2
      all_goals
        go_roundw
        case rel => exact ⟨k+1, by omega, by go_num, by rw [HST.out, e0, e1]; simp only [one, if_true, if_false, Bool.false_eq_true]; congr 1 <;> omega, HQ.out⟩
        case measure => simp [intOf]; omega
    · go_wp2
      go_ret
      obtain rfl : k = n := by omega
      have e1 : xss.take k = xss := List.take_of_length_le (by rw [HX.out]; exact Nat.le_refl _)
      rw [e1]
      exact ⟨rfl, hb1⟩

theorem degree_nil (a : Option Addr) (c : Nat) (s v : Int) (w : World) :
    Calls Try.prog 107 #[.agg #[.int .i64 s, .slice a 0 c], .int .i64 v] w fun e w' => e = .returned (.int .i64 0) ∧ Below w.heap.size w w' := by
  have hb0 : ∀ o, Below w.heap.size w (w.alloc o) := fun o => (Below.refl _ _).alloc (Nat.le_refl _) o
  go_enter Try.func107, Try.ntmps107
  go_wp2
  refine wp_loop_rounds 1 ?_
  rw [rounds_succ]
  go_wp2
  go_ret
  exact ⟨rfl, hb0 _⟩

theorem l01Degree {lo hi : Nat} (s v : Int) (a : Option Addr) (n c : Nat) (xss : List (List Int)) (w : World) (h : RdR lo hi w (.slice a n c) xss) (hg : grB s xss = true) :
    Calls Try.prog 107 #[.agg #[.int .i64 s, .slice a n c], .int .i64 v] w fun e w' => e = .returned (.int .i64 (deg xss v)) ∧ Below w.heap.size w w' := by
  obtain ⟨_, _, h3, h4⟩ := grB_iff hg
  obtain ⟨_, ⟨a', cap, rfl, hv⟩ | ⟨b, off, cap, hv, _, _, _, hc⟩⟩ := h
  · simp only [Value.slice.injEq] at hv
    obtain ⟨_, rfl, _⟩ := hv
    exact degree_nil a c s v w
  · simp only [Value.slice.injEq] at hv
    obtain ⟨rfl, rfl, rfl⟩ := hv
    exact degree_ne _ b off c s v xss w h3 rfl (fun j hj => (h4 j hj).1) hc

end Go.Proofs.Ytecobmmlpoaggaa
