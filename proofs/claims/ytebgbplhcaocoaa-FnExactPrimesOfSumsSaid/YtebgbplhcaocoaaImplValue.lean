/- ValueOfWhole of the program. -/
import Derived.Test.YtebgbplhcaocoaaPolyValue
set_option linter.unusedSimpArgs false
set_option linter.unusedVariables false
namespace Go.Proofs.Ytebgbplhcaocoaa
open Go.RowKit

theorem wholesOf_nil (a : Option Addr) (cap : Nat) (w : World) :
    Calls Try.prog 127 #[.slice a 0 cap] w fun e w' => ∃ v, e = .returned v ∧ w'.ownsRow w.heap.size 73 2 v 0 [] ∧ Below w.heap.size w w' := by
  obtain ⟨i0, hi', z0, z1, z2⟩ := info_parts Try.info73
  go_enter Try.func127, Try.ntmps127
  go_wp2_with (at_make; refine wpList_make_full _ rfl _ _ 68 rfl w.heap.size 73 i0 (.agg #[.int .i64 0, .bool false]) 2 Try.underlying68 hi' z0 z1 _ _ _ _ 0 rfl rfl rfl rfl ?c1 ?c2 ?c3 ?_)
  case c1 => omega
  case c2 => unfold maxLen; omega
  case c3 => exact Nat.le_refl _
  intro w1 hown hgr
  rw [made2b 0] at hown
  have hbl : Below w.heap.size w w1 := (Below.refl _ _).grown hgr (Nat.le_refl _) (by simp)
  clear hgr
  go_wp2
  refine wp_loop_rounds 1 ?_
  rw [rounds_succ]
  go_wp2
  go_ret
  exact ⟨_, rfl, hown, hbl⟩

theorem wholesOf {lo hi : Nat} (v : Value) (xs : List Int) (w : World) (h : RdI lo hi w v xs) :
    Calls Try.prog 127 #[v] w fun e w' => ∃ a c, e = .returned (.slice a xs.length c) ∧ w'.ownsRow w.heap.size 73 2 (.slice a xs.length c) xs.length (flatO (xs.map some)) ∧ Below w.heap.size w w' := by
  have fin : ∀ (e : Ending) (w' : World) v n, xs.length = n → e = .returned v → w'.ownsRow w.heap.size 73 2 v n (flatO (xs.map some)) → Below w.heap.size w w' → ∃ a c, e = .returned (.slice a xs.length c) ∧ w'.ownsRow w.heap.size 73 2 (.slice a xs.length c) xs.length (flatO (xs.map some)) ∧ Below w.heap.size w w' := by
    intro e w' v n hn he ho hb
    subst hn
    have ho' := ho
    rcases ho.2 with ⟨hv, h0⟩ | ⟨g, cap, cur, hv, _⟩
    · subst hv
      rw [h0] at ho' ⊢
      exact ⟨none, 0, he, ho', hb⟩
    · subst hv; exact ⟨_, cap, he, ho', hb⟩
  obtain ⟨h1, h2, ⟨a, cap, rfl, rfl⟩ | ⟨b, off, cap, rfl, h0, _, _, hc⟩⟩ := h
  · exact (wholesOf_nil a cap w).mono fun e w' ⟨v', he, ho, hb⟩ => fin e w' v' 0 rfl he ho hb
  · exact (wholesOf_ne xs.length b off cap xs w h1 rfl (World.block_lt_of_cell? w _ (hc 0 h0)) hc).mono fun e w' ⟨v', he, ho, hb⟩ => fin e w' v' _ rfl he ho hb

end Go.Proofs.Ytebgbplhcaocoaa
