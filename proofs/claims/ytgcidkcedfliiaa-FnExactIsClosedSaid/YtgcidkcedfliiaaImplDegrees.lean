/- DegreesOf of the program. -/
import Derived.Test.YtgcidkcedfliiaaEdges
import Derived.Test.YtgcidkcedfliiaaDegs
set_option linter.unusedSimpArgs false
set_option linter.unusedVariables false
namespace Go.Proofs.Ytgcidkcedfliiaa
open Go.RowKit

theorem edgesOf_nil (a : Option Addr) (c : Nat) (s : Int) (w : World) :
    Calls Try.prog 76 #[.agg #[.int .i64 s, .slice a 0 c]] w fun e w' => ∃ v, e = .returned v ∧ w'.ownsRow w.heap.size 64 2 v 0 [] ∧ Below w.heap.size w w' := by
  obtain ⟨i0, hi', z0, z1, z2⟩ := info_parts Try.info64
  have hb0 : ∀ o, Below w.heap.size w (w.alloc o) := fun o => (Below.refl _ _).alloc (Nat.le_refl _) o
  go_enter Try.func76, Try.ntmps76
  go_wp2_with (at_make; refine wpList_make_full _ rfl _ _ 61 rfl (w.heap.size + 1) 64 i0 (.agg #[.int .i64 0, .int .i64 0]) 2 Try.underlying61 hi' z0 z1 _ _ _ _ 0 rfl rfl rfl rfl ?c1 ?c2 ?c3 ?_)
  case c1 => omega
  case c2 => unfold maxLen; omega
  case c3 => simp
  intro w1 hown hgr
  rw [setE_zero 0] at hown
  have hbl : Below w.heap.size w w1 := (hb0 _).grown hgr (by simp) (by simp)
  have k2 : w1.cell? ⟨w.heap.size, 1, none⟩ = some (.slice a 0 c) := hgr.cell (by go_simp) (by simp)
  clear hgr
  go_wp2
  refine wp_loop_rounds 1 ?_
  rw [rounds_succ]
  go_wp2
  go_ret
  exact ⟨_, rfl, ownsRow_mono hown (Nat.le_succ _), hbl⟩

theorem edgesOf {lo hi : Nat} (s : Int) (a : Option Addr) (n c : Nat) (xss : List (List Int)) (w : World) (h : RdR lo hi w (.slice a n c) xss) (hg : grB s xss = true) (hn : xss.length = n) :
    Calls Try.prog 76 #[.agg #[.int .i64 s, .slice a n c]] w fun e w' => ∃ a' c', e = .returned (.slice a' n c') ∧ w'.ownsRow w.heap.size 64 2 (.slice a' n c') n (flat (pairs xss)) ∧ Below w.heap.size w w' := by
  obtain ⟨_, _, h3, h4⟩ := grB_iff hg
  have fin : ∀ (e : Ending) (w' : World) v, e = .returned v → w'.ownsRow w.heap.size 64 2 v n (flat (pairs xss)) → Below w.heap.size w w' → ∃ a' c', e = .returned (.slice a' n c') ∧ w'.ownsRow w.heap.size 64 2 (.slice a' n c') n (flat (pairs xss)) ∧ Below w.heap.size w w' := by
    intro e w' v he ho hb
    have ho' := ho
    rcases ho.2 with ⟨hv, h0⟩ | ⟨g, cap, cur, hv, _⟩
    · subst hv; subst h0; exact ⟨none, 0, he, ho', hb⟩
    · subst hv; exact ⟨_, cap, he, ho', hb⟩
  obtain ⟨_, ⟨a', cap, rfl, hv⟩ | ⟨b, off, cap, hv, _, _, _, hc⟩⟩ := h
  · simp only [Value.slice.injEq] at hv
    obtain ⟨_, rfl, _⟩ := hv
    exact (edgesOf_nil a c s w).mono fun e w' ⟨v, he, ho, hb⟩ => fin e w' v he ho hb
  · simp only [Value.slice.injEq] at hv
    obtain ⟨rfl, rfl, rfl⟩ := hv
    exact (edgesOf_ne _ b off c s xss w h3 rfl (fun j hj => (h4 j hj).1) hc).mono fun e w' ⟨v, he, ho, hb⟩ => fin e w' v he ho hb

/-- the k-th pair, among the cells -/
theorem flat_get (xss : List (List Int)) (k : Nat) (hk : k < xss.length) : (flat (pairs xss))[k * 2]? = some (.int .i64 ((xss.getD k []).getD 0 0)) ∧ (flat (pairs xss))[k * 2 + 1]? = some (.int .i64 ((xss.getD k []).getD 1 0)) := by
  induction xss generalizing k with
  | nil => simp at hk
  | cons e r ih =>
    cases k with
    | zero => simp [flat, pairs]
    | succ k =>
      have := ih k (by simpa using hk)
      have e1 : (k + 1) * 2 = k * 2 + 2 := by omega
      rw [e1]
      simpa [flat, pairs] using this

def dgl (m : Nat) (xss : List (List Int)) : List Value := (List.range m).map (fun v : Nat => Value.int .i64 (deg xss (v : Int)))
theorem dgl_zero (m : Nat) : (madeCells #[Value.int .i64 0] m).toList = dgl m [] := by
  rw [toList_madeCells_one]
  unfold dgl
  have : (fun v : Nat => Value.int .i64 (deg [] (v : Int))) = fun _ => Value.int .i64 0 := by funext v; simp [deg]
  rw [this, List.map_const', List.length_range]
theorem dgl_get (m : Nat) (xss : List (List Int)) (i : Nat) (h : i < m) : (dgl m xss)[i]? = some (.int .i64 (deg xss (i : Int))) := by simp [dgl, h]

end Go.Proofs.Ytgcidkcedfliiaa
