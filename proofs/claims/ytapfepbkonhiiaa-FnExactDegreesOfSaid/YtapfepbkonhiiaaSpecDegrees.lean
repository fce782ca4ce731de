/- DegreesOf of the model. -/
import Derived.Test.YtapfepbkonhiiaaDegree
import Derived.Test.YtapfepbkonhiiaaBase2
set_option linter.unusedSimpArgs false
set_option linter.unusedVariables false
namespace Go.Proofs.Ytapfepbkonhiiaa
open Go.RowKit

def degs (s : Int) (xss : List (List Int)) : List Int := (List.range s.toNat).map (fun v : Nat => deg xss (v : Int))
def degsTo (k : Nat) (xss : List (List Int)) : List Value := (List.range k).map (fun v : Nat => Value.int .i64 (deg xss (v : Int)))
theorem degsTo_step (k : Nat) (xss : List (List Int)) : degsTo (k+1) xss = degsTo k xss ++ [.int .i64 (deg xss (k : Int))] := by simp [degsTo, List.range_succ]
theorem degsTo_all (s : Int) (xss : List (List Int)) : degsTo s.toNat xss = (degs s xss).map (Value.int .i64) := by simp [degsTo, degs]
def degreesOf (s : Int) (xss : List (List Int)) : List Int × Int := if grB s xss then (degs s xss, 0) else ([], 1)

theorem degs_I64 {s : Int} {xss : List (List Int)} (h : xss.length ≤ 10) : ∀ x ∈ degs s xss, I64 x := by
  intro x hx
  simp only [degs, List.mem_map, List.mem_range] at hx
  obtain ⟨v, _, rfl⟩ := hx
  have := deg_bd xss (v : Int)
  unfold I64; omega

theorem OwI.nil (lo hi : Nat) (w : World) : OwI lo hi w (.slice none 0 0) [] :=
  ⟨by simp, by simp, World.ownsRow_nil _ _ _ _, fun k hk => by simp [Value.ownBlock] at hk⟩

set_option maxHeartbeats 1600000 in
theorem specDegrees_yes {lo hi : Nat} (s : Int) (a : Option Addr) (n c : Nat) (xss : List (List Int)) (w : World) (h : RdR lo hi w (.slice a n c) xss) (hn : xss.length = n) (hg : grB s xss = true) :
    Calls Try.prog 18 #[.agg #[.int .i64 s, .slice a n c]] w fun e w' => ∃ v, e = .returned (.tuple #[v, .int .i64 0]) ∧ w'.ownsRow w.heap.size 2 1 v s.toNat ((degs s xss).map (Value.int .i64)) ∧ Below w.heap.size w w' := by
  obtain ⟨i0, hi', z0, z1, z2⟩ := info_parts Try.info2
  have hb0 : ∀ o, Below w.heap.size w (w.alloc o) := fun o => (Below.refl _ _).alloc (Nat.le_refl _) o
  obtain ⟨hs1, hs2, h3, _⟩ := grB_iff hg
  have HG := Lib.hid hg
  have HN := Lib.hid hn
  clear hg hn h3
  go_enter Try.func18, Try.ntmps18
  go_wp2_with fail
  refine calls_gen (fun W => Below w.heap.size w W ∧ w.heap.size < W.heap.size ∧ W.cell? ⟨w.heap.size, 0, none⟩ = some (.int .i64 s) ∧ W.cell? ⟨w.heap.size, 1, none⟩ = some (.slice a n c)) ⟨hb0 _, by simp, by go_simp, by go_simp⟩ ?_
  rintro W ⟨hB, hz, k1, k2⟩
  refine (l01Is s a n c xss W (h.below hB) HN.out).mono ?_
  rw [HG.out]
  rintro e w1 ⟨rfl, b1⟩
  replace k1 := b1.keep k1
  replace k2 := b1.keep k2
  replace hB := hB.next b1
  have hz1 : w.heap.size < w1.heap.size := by have := b1.size; omega
  clear b1
  go_wp2
  go_loopw [4, 5] (fun v i wr => ∃ k : Nat, k ≤ s.toNat ∧ i = .int .i64 k ∧ wr.ownsRow (w.heap.size + 1) 2 1 v k (degsTo k xss) ∧ Below w.heap.size w wr ∧ w.heap.size < wr.heap.size ∧ wr.cell? ⟨w.heap.size, 0, none⟩ = some (.int .i64 s) ∧ wr.cell? ⟨w.heap.size, 1, none⟩ = some (.slice a n c)) (fun _ i _ => s.toNat - (intOf i).toNat)
  case atStart =>
    refine ⟨0, Nat.zero_le _, rfl, ?_, hB.alloc (by omega) _, by simp; omega, by go_simp, by go_simp⟩
    exact World.ownsRow_lit w1 #[] 0 (by omega) (by unfold maxLen; omega) rfl
  case round =>
    clear k1 k2 hB hz1
    obtain ⟨k, hk, rfl, hown, hB, hz1, k1, k2⟩ := hrel
    by_cases hlt : (k : Int) < s
    · go_wp2_with fail
      refine (l01Degree s _ a n c xss _ (h.below hB) HG.out).mono ?_
      rintro e w2 ⟨rfl, b2⟩
      replace k1 := b2.keep k1
      replace k2 := b2.keep k2
      have hB2 := hB.next b2
      have hz2 : w.heap.size < w2.heap.size := by have := b2.size; omega
      have hown2 := ownsRow_chg hown (b2.chg 0 0) (fun _ _ => .inr (Nat.zero_le _))
      clear b2 hown hB hz1
      go_wp2_with (at_builtin; refine wpList_append_own _ rfl _ _ 31 rfl (w.heap.size + 1) 2 i0 (.int .i64 0) 1 8 Try.underlying31 hi' z0 z1 z2 rfl (by decide) _ _ _ rfl (hown2.alloc _) ⟨w2.heap.size, 0, none⟩ 1 1 [.int .i64 (deg xss (k : Int))] rfl rfl ?c1 ?c2 ?c3 ?c4 ?c5 ?_)
      case c1 => exact news_one _ _ _
      case c2 => intro u hu; simp at hu; subst hu; rfl
      case c3 => unfold maxLen; omega
      case c4 => omega
      case c5 => simp; omega
      intro v3 w3 hown3 hgr _
      obtain ⟨hB3, hz3, hk3, _⟩ := grown_own hB2 hown2 (Nat.le_succ _) hgr
      replace k1 := hk3 _ _ (Nat.lt_succ_self _) k1
      replace k2 := hk3 _ _ (Nat.lt_succ_self _) k2
      rw [← degsTo_step] at hown3
      clear hgr hk3 hown2
      go_wp2
      go_roundw
      case rel => exact ⟨k+1, by omega, by go_num, hown3, hB3, by omega, k1, k2⟩
      case measure => simp [intOf]; omega
    · go_wp2
      go_ret2
      obtain rfl : k = s.toNat := by omega
      rw [degsTo_all] at hown
      exact ⟨_, rfl, ownsRow_mono hown (Nat.le_succ _), hB⟩

theorem specDegrees_no {lo hi : Nat} (s : Int) (a : Option Addr) (n c : Nat) (xss : List (List Int)) (w : World) (h : RdR lo hi w (.slice a n c) xss) (hn : xss.length = n) (hg : grB s xss = false) :
    Calls Try.prog 18 #[.agg #[.int .i64 s, .slice a n c]] w fun e w' => e = .returned (.tuple #[.slice none 0 0, .int .i64 1]) ∧ Below w.heap.size w w' := by
  have hb0 : ∀ o, Below w.heap.size w (w.alloc o) := fun o => (Below.refl _ _).alloc (Nat.le_refl _) o
  go_enter Try.func18, Try.ntmps18
  go_wp2_with fail
  refine calls_gen (fun W => Below w.heap.size w W) (hb0 _) ?_
  intro W hB
  refine (l01Is s a n c xss W (h.below hB) hn).mono ?_
  rw [hg]
  rintro e w1 ⟨rfl, b1⟩
  replace hB := hB.next b1
  go_wp2
  go_ret2
  exact ⟨rfl, hB⟩

theorem specDegrees {lo hi : Nat} (s : Int) (a : Option Addr) (n c : Nat) (xss : List (List Int)) (w : World) (h : RdR lo hi w (.slice a n c) xss) (hn : xss.length = n) :
    Calls Try.prog 18 #[.agg #[.int .i64 s, .slice a n c]] w fun e w' => ∃ a' c', e = .returned (.tuple #[.slice a' (degreesOf s xss).1.length c', .int .i64 (degreesOf s xss).2]) ∧
      OwI w.heap.size w'.heap.size w' (.slice a' (degreesOf s xss).1.length c') (degreesOf s xss).1 ∧ Below w.heap.size w w' := by
  cases hg : grB s xss with
  | false =>
    refine (specDegrees_no s a n c xss w h hn hg).mono fun e w' ⟨he, hb⟩ => ⟨none, 0, ?_, ?_, hb⟩
    · rw [he]; simp [degreesOf, hg]
    · simp only [degreesOf, hg]; exact OwI.nil _ _ _
  | true =>
    refine (specDegrees_yes s a n c xss w h hn hg).mono fun e w' ⟨v, he, ho, hb⟩ => ?_
    have hO : OwI w.heap.size w'.heap.size w' v (degs s xss) := .mk ho (by have := (grB_iff hg).2.1; omega) (degs_I64 (grB_iff hg).2.2.1)
    obtain ⟨a', c', hv⟩ := hO.rd.shape
    subst hv
    have e1 : degreesOf s xss = (degs s xss, 0) := by simp [degreesOf, hg]
    rw [e1]
    exact ⟨a', c', he, hO, hb⟩

end Go.Proofs.Ytapfepbkonhiiaa
