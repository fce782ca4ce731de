/- The program's first leaf. -/
import Derived.Test.YtecobmmlpoaggaaPrune
import Derived.Test.YtecobmmlpoaggaaImplDegrees3
import Derived.Test.YtecobmmlpoaggaaImplFirsts
import Derived.Deep.RegionLaw
set_option linter.unusedSimpArgs false
set_option linter.unusedVariables false
namespace Go.Proofs.Ytecobmmlpoaggaa
open Go.RowKit

def ixI (o : Option Nat) : Int := match o with | some v => (v : Int) | none => -1
theorem find_congr {p q : Nat → Bool} {l : List Nat} (h : ∀ x ∈ l, p x = q x) : l.find? p = l.find? q := by
  induction l with
  | nil => rfl
  | cons a r ih =>
    simp only [List.find?_cons]
    rw [h a (by simp), ih (fun x hx => h x (by simp [hx]))]

theorem vertexWithout (v a : Int) (w : World) (hv : 0 ≤ v) (ha : I64 a) :
    Calls Try.prog 110 #[.int .i64 v, .int .i64 a] w fun e w' => e = .returned (.int .i64 (low v a)) ∧ Qt w w' := by
  by_cases h : v < a
  · have e0 : low v a = a - 1 := by unfold low; rw [if_pos h]
    have hw : IntKind.i64.wrap (a - 1) = a - 1 := IntWalk.i64_in _ (by unfold I64 at ha; omega)
    rw [e0]
    clear e0
    go_enter Try.func110, Try.ntmps110
    go_wp2
    go_ret
    exact ⟨rfl, Qt.refl _⟩
  · have e0 : low v a = a := by unfold low; rw [if_neg h]
    rw [e0]
    clear e0
    go_enter Try.func110, Try.ntmps110
    go_wp2
    go_ret
    exact ⟨rfl, Qt.refl _⟩

/-- the first place of 1 among the first k numbers -/
theorem index_ne (n b off cap : Nat) (xs : List Int) (w : World) (hx : xs.length = n) (hn : n ≤ 1000)
    (hc : ∀ j, j < n → w.cell? ⟨b, off + j, none⟩ = some (.int .i64 (xs.getD j 0))) :
    Calls Try.prog 109 #[.slice (some ⟨b, off, none⟩) n cap, .int .i64 1] w fun e w' => e = .returned (.int .i64 (ixI ((List.range n).find? (fun j => xs.getD j 0 == 1)))) ∧ Qt w w' := by
  have HC := Lib.hid hc
  have hgen : ∀ k, k ≤ n → (∀ u, u < k → ¬ xs.getD u 0 = 1) → k < n → xs.getD k 0 = 1 → (List.range n).find? (fun j => xs.getD j 0 == 1) = some k := by
    intro k hk h1 h2 h3
    have : ∀ m, k < m → m ≤ n → (List.range m).find? (fun j => xs.getD j 0 == 1) = some k := by
      intro m
      induction m with
      | zero => intro h0; omega
      | succ m ih =>
        intro q1 q2
        rw [List.range_succ, List.find?_append]
        by_cases e : k < m
        · rw [ih e (by omega)]; rfl
        · obtain rfl : k = m := by omega
          have e0 : (List.range k).find? (fun j => xs.getD j 0 == 1) = none := by
            rw [List.find?_eq_none]
            intro u hu
            have := h1 u (List.mem_range.1 hu)
            simpa using this
          rw [e0]; simp only [List.find?_cons, h3]; rfl
    exact this n h2 (Nat.le_refl _)
  have hnone : (∀ u, u < n → ¬ xs.getD u 0 = 1) → (List.range n).find? (fun j => xs.getD j 0 == 1) = none := by
    intro h
    rw [List.find?_eq_none]
    intro u hu
    have := h u (List.mem_range.1 hu)
    simpa using this
  obtain ⟨R, hR⟩ : ∃ R, R = (List.range n).find? (fun j => xs.getD j 0 == 1) := ⟨_, rfl⟩
  rw [← hR] at hgen hnone ⊢
  have HG := Lib.hid hgen
  have HN := Lib.hid hnone
  clear hc hgen hnone hR hx
  go_enter Try.func109, Try.ntmps109
  go_wp2
  go_loopw [8] (fun i wr => ∃ k : Nat, k ≤ n ∧ i = .int .i64 k ∧ Hid (∀ u, u < k → ¬ xs.getD u 0 = 1) ∧ Qt w wr) (fun i _ => n - (intOf i).toNat)
  case atStart => exact ⟨0, Nat.zero_le _, rfl, Lib.hid (fun u hu => by omega), Qt.refl _⟩
  case round =>
    obtain ⟨k, hk, rfl, HU, hq⟩ := hrel
    by_cases hlt : k < n
    · have c0 := hq.cell (HC.out k hlt)
      by_cases h1 : xs.getD k 0 = 1
      · rw [h1] at c0
        have HE1 := Lib.hid (HG.out k (by omega) HU.out hlt h1)
        clear h1
        go_wp2
        go_ret
        exact ⟨by rw [HE1.out]; rfl, hq⟩
      · have hnx : Hid (∀ u, u < k + 1 → ¬ xs.getD u 0 = 1) := Lib.hid (fun u hu => by
          by_cases e : u < k
          · exact HU.out u e
          · obtain rfl : u = k := by omega
            exact h1)
        generalize xs.getD k 0 = x at *
        have hb : (1 == x) = false := by
          have : ¬ 1 = x := fun e => h1 e.symm
          simpa using this
        clear h1
        go_wp2
        go_roundw
        case rel => exact ⟨k+1, by omega, by go_num, hnx, hq⟩
        case measure => simp [intOf]; omega
    · obtain rfl : k = n := by omega
      go_wp2
      go_ret
      exact ⟨by rw [HN.out HU.out]; rfl, hq⟩

theorem leafOf {lo hi : Nat} (S : Nat) (a : Option Addr) (n c : Nat) (xss : List (List Int)) (w : World) (h : RdR lo hi w (.slice a n c) xss) (hn : xss.length = n) (hg : grB (S : Int) xss = true) :
    Calls Try.prog 87 #[.agg #[.int .i64 (S : Int), .slice a n c]] w fun e w' => e = .returned (.int .i64 (ixI (leafN S xss))) ∧ Below w.heap.size w w' := by
  have hb0 : ∀ o, Below w.heap.size w (w.alloc o) := fun o => (Below.refl _ _).alloc (Nat.le_refl _) o
  obtain ⟨hs1, hs2, h3, h4⟩ := grB_iff hg
  have hS8 : S ≤ 8 := by omega
  have hS1 : 1 ≤ S := by omega
  have HD := Lib.hid (fun W' (h : RdR lo hi W' (.slice a n c) xss) => implDegrees (S : Int) a n c xss W' h hn)
  have e1 : degreesOf (S : Int) xss = (degs (S : Int) xss, 0) := by unfold degreesOf; rw [hg]; rfl
  have hl : (degs (S : Int) xss).length = S := by simp [degs]
  have hget : ∀ j, j < S → (degs (S : Int) xss).getD j 0 = deg xss (j : Int) := fun j hj => by simp [degs, List.getD, hj]
  have hfind : (List.range S).find? (fun j => (degs (S : Int) xss).getD j 0 == 1) = leafN S xss := by
    unfold leafN
    refine find_congr fun x hx => ?_
    rw [hget x (List.mem_range.1 hx)]
  rw [← hfind]
  have HE := Lib.hid e1
  generalize degs (S : Int) xss = ds at *
  clear hn hg h3 h4 hget hfind e1
  go_enter Try.func87, Try.ntmps87
  go_wp2_with fail
  refine calls_gen (fun W => Below w.heap.size w W) (hb0 _) ?_
  intro W hB
  refine (HD.out W (h.below hB)).mono ?_
  rw [HE.out]
  rintro e w1 ⟨a1, c1, rfl, o1, b1⟩
  replace hB := hB.next b1
  replace o1 : OwI W.heap.size w1.heap.size w1 (.slice a1 ds.length c1) ds := o1
  obtain ⟨g0, cap0, hv0, hg0, hg0w⟩ := o1.2.2.1.form (by omega)
  simp only [Value.slice.injEq] at hv0
  obtain ⟨rfl, hS0, rfl⟩ := hv0
  clear hS0
  obtain ⟨_, _, ⟨_, _, hx, _⟩ | ⟨b, off, cap, hv, _, _, _, hc⟩⟩ := o1.rd
  · rw [hx] at hl; simp at hl; omega
  · simp only [Value.slice.injEq, Option.some.injEq, Addr.mk.injEq] at hv
    obtain ⟨⟨rfl, rfl, _⟩, _, rfl⟩ := hv
    rw [hl] at hc
    have HCC := Lib.hid hc
    have HL := Lib.hid hl
    clear b1 o1 hc
    go_wp2_with fail
    refine (index_ne S g0 0 c1 ds _ HL.out (by omega) HCC.out).mono ?_
    rintro e w2 ⟨rfl, q2⟩
    replace hB := hB.qt q2
    go_wp2
    go_ret
    exact ⟨rfl, hB⟩

end Go.Proofs.Ytecobmmlpoaggaa
