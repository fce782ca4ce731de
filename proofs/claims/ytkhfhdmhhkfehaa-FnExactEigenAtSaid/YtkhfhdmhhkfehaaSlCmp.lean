/- slices.Compare of two lists of one length. -/
import Derived.Test.YtkhfhdmhhkfehaaBefore
import Derived.Laws.AppendOwnNone
set_option linter.unusedSimpArgs false
set_option linter.unusedVariables false
namespace Go.Proofs.Ytkhfhdmhhkfehaa
open Go.RowKit

def cmpI (x y : Int) : Int := if x < y then -1 else if y < x then 1 else 0
/-- of the m places from k on, the first where they differ says it -/
def cmpL (xs ys : List Int) : Nat → Nat → Int
  | 0, _ => 0
  | m + 1, k => if xs.getD k 0 = ys.getD k 0 then cmpL xs ys m (k + 1) else cmpI (xs.getD k 0) (ys.getD k 0)
theorem cmpL_bef (xs ys : List Int) (m : Nat) : ∀ k, cmpL xs ys m k < 0 ↔ bef xs ys m k = true := by
  induction m with
  | zero => intro k; simp [cmpL, bef]
  | succ m ih =>
    intro k
    simp only [cmpL, bef]
    by_cases e : xs.getD k 0 = ys.getD k 0
    · rw [if_pos e, if_pos e]; exact ih _
    · rw [if_neg e, if_neg e, decide_eq_true_eq]
      unfold cmpI
      by_cases h1 : xs.getD k 0 < ys.getD k 0
      · rw [if_pos h1]; exact ⟨fun _ => h1, fun _ => by decide⟩
      · rw [if_neg h1, if_pos (by omega)]; exact ⟨fun h => absurd h (by decide), fun h => absurd h h1⟩

theorem isNaN (x : Int) (w : World) :
    Calls Try.prog 118 #[.int .i64 x] w fun e w' => e = .returned (.bool false) ∧ Qt w w' := by
  go_enter Try.func118, Try.ntmps118
  go_wp2
  go_ret
  exact ⟨rfl, Qt.refl _⟩

set_option maxRecDepth 100000 in
set_option maxHeartbeats 1600000 in
theorem cmpCompare (x y : Int) (w : World) :
    Calls Try.prog 108 #[.int .i64 x, .int .i64 y] w fun e w' => e = .returned (.int .i64 (cmpI x y)) ∧ Qt w w' := by
  obtain ⟨P, hP⟩ : ∃ P, P = cmpI x y := ⟨_, rfl⟩
  rw [← hP]
  unfold cmpI at hP
  go_enter Try.func108, Try.ntmps108
  go_wp2_with fail
  refine (isNaN x _).mono ?_
  rintro e w1 ⟨rfl, q1⟩
  go_wp2_with fail
  refine (isNaN y _).mono ?_
  rintro e w2 ⟨rfl, q2⟩
  have HQ := Lib.hid (q1.trans q2)
  clear q1 q2
  by_cases h1 : x < y
  · rw [if_pos h1] at hP
    subst hP
    have d1 : decide (x < y) = true := by simpa using h1
    go_wp2
    go_ret
    exact ⟨rfl, HQ.out⟩
  · rw [if_neg h1] at hP
    have g1 : y ≤ x := by omega
    by_cases h2 : y < x
    · rw [if_pos h2] at hP
      subst hP
      go_wp2
      go_ret
      exact ⟨rfl, HQ.out⟩
    · rw [if_neg h2] at hP
      have g2 : x ≤ y := by omega
      subst hP
      go_wp2
      go_ret
      exact ⟨rfl, HQ.out⟩

theorem eqNil (ad : Addr) (n cap : Nat) (w : World) : Sem.run Try.prog (binOp BinOp.eql 24 (.slice (some ad) n cap) (.slice none 0 0)) w = .ok (Value.bool false) w := by kernel_rfl

theorem slClone (n cap : Nat) (ad : Addr) (xs : List Int) (w : World) (hn : n ≤ 17592186044416) (hx : xs.length = n)
    (hc : ∀ j u, (xs.map (Value.int .i64))[j]? = some u → w.cell? (ad.add j) = some u) :
    Calls Try.prog 119 #[.slice (some ad) n cap] w fun e w' => ∃ v, e = .returned v ∧ w'.ownsRow w.heap.size 2 1 v n (xs.map (Value.int .i64)) ∧ Below w.heap.size w w' := by
  obtain ⟨i0, hi', z0, z1, z2⟩ := info_parts Try.info2
  have HC := Lib.hid hc
  have HX := Lib.hid hx
  clear hc hx
  have hown : (w.alloc (.cells #[] 2)).ownsRow w.heap.size 2 1 (.slice (some ⟨w.heap.size, 0, none⟩) 0 0) 0 [] := World.ownsRow_lit w #[] 0 (Nat.le_refl _) (by unfold maxLen; omega) rfl
  have hnil := eqNil
  go_enter Try.func119, Try.ntmps119
  go_wp2_with (at_builtin; refine wpList_append_own _ rfl _ _ 24 rfl w.heap.size 2 i0 (.int .i64 0) 1 8 Try.underlying24 hi' z0 z1 z2 rfl (by decide) _ _ _ rfl hown ad n cap (xs.map (Value.int .i64)) rfl ?c0 ?c1 ?c2 ?c3 ?c4 ?c5 ?_)
  case c0 => rw [List.length_map, HX.out]; omega
  case c1 =>
    intro j u hj
    have h1 := HC.out j u hj
    have hb := World.block_lt_of_cell? w _ h1
    exact (World.cell?_of_block (w := w) (Below.heap_alloc w _ _ hb)).trans h1
  case c2 => intro u hu; simp at hu; obtain ⟨x, _, rfl⟩ := hu; rfl
  case c3 => unfold maxLen; omega
  case c4 => omega
  case c5 => simp
  intro v3 w3 hown3 hgr _
  have hb : Below w.heap.size w w3 := ((Below.refl w.heap.size w).alloc (Nat.le_refl _) (.cells #[] 2)).grown hgr (by simp) (fun k hk => by have := (hown.lt k hk).1; omega)
  clear hgr hown
  go_wp2
  go_ret
  exact ⟨_, rfl, hown3, hb⟩

end Go.Proofs.Ytkhfhdmhhkfehaa
