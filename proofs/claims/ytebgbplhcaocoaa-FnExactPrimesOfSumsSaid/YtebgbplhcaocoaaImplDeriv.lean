/- DerivativeOfWhole of the program. -/
import Derived.Test.YtebgbplhcaocoaaSpecDeriv2
import Derived.Test.YtebgbplhcaocoaaImplValue
set_option linter.unusedSimpArgs false
set_option linter.unusedVariables false
set_option maxRecDepth 100000
namespace Go.Proofs.Ytebgbplhcaocoaa
open Go.RowKit

def derO (xs : List Int) (k : Nat) : List (Option Int) := (List.range k).map (fun i : Nat => timesO (some (xs.getD (i + 1) 0)) (some ((i : Int) + 1)))
theorem derO_succ (xs : List Int) (k : Nat) : derO xs (k+1) = derO xs k ++ [timesO (some (xs.getD (k + 1) 0)) (some ((k : Int) + 1))] := by simp [derO, List.range_succ]
theorem derO_len (xs : List Int) (k : Nat) : (derO xs k).length = k := by simp [derO]
theorem news_two (w : World) (t : TypeId) (x y : Value) : ∀ (j : Nat) (u : Value), [x, y][j]? = some u → (w.alloc (.cells #[x, y] t)).cell? (({ block := w.heap.size, off := 0 } : Addr).add j) = some u := by
  intro j u hj
  match j, hj with
  | 0, hj => simp at hj; subst hj; simp [Addr.add]
  | 1, hj => simp at hj; subst hj; simp [Addr.add]

theorem wholesOfP {lo hi : Nat} (v : Value) (xs : List Int) (w : World) (h : RdI lo hi w v xs) (h0 : 0 < xs.length) :
    Calls Try.prog 127 #[v] w fun e w' => ∃ g c, e = .returned (.slice (some ⟨g, 0, none⟩) xs.length c) ∧ g < w'.heap.size ∧
      (∀ j, j < xs.length → w'.cell? ⟨g, j * 2, none⟩ = some (.int .i64 (xs.getD j 0)) ∧ w'.cell? ⟨g, j * 2 + 1, none⟩ = some (.bool false)) ∧ Below w.heap.size w w' := by
  refine (wholesOf v xs w h).mono fun e w' ⟨a, c, he, ho, hb⟩ => ?_
  have ho' := ho
  rcases ho.2 with ⟨hv, h1⟩ | ⟨g, cap, cur, hv, _⟩
  · omega
  · simp only [Value.slice.injEq] at hv
    obtain ⟨rfl, _, rfl⟩ := hv
    refine ⟨g, c, he, (ho'.lt _ rfl).2, fun j hj => ?_, hb⟩
    obtain ⟨g1, g2⟩ := flatO_get (xs.map some) j (by rw [List.length_map]; exact hj)
    have e : (xs.map some).getD j none = some (xs.getD j 0) := by simp [List.getD, List.getElem?_eq_getElem hj]
    rw [e] at g1 g2
    exact ⟨(ho'.cellAt _ (by omega)).trans g1, (ho'.cellAt _ (by omega)).trans g2⟩

theorem numbersOf_nil (w : World) :
    Calls Try.prog 81 #[.slice none 0 0] w fun e w' => ∃ a c, e = .returned (.tuple #[.slice a 0 c, .int .i64 0]) ∧ OwI w.heap.size w'.heap.size w' (.slice a 0 c) [] ∧ Below w.heap.size w w' := by
  obtain ⟨i0, hi', z0, z1, z2⟩ := info_parts Try.info2
  go_enter Try.func81, Try.ntmps81
  go_wp2_with (at_make; refine wpList_make_full _ rfl _ _ 37 rfl w.heap.size 2 i0 (.int .i64 0) 1 Try.underlying37 hi' z0 z1 _ _ _ _ 0 rfl rfl rfl rfl ?c1 ?c2 ?c3 ?_)
  case c1 => omega
  case c2 => unfold maxLen; omega
  case c3 => exact Nat.le_refl _
  intro w1 hown hgr
  have hbl : Below w.heap.size w w1 := (Below.refl _ _).grown hgr (Nat.le_refl _) (by simp)
  have e0 : (madeCells #[Value.int .i64 0] 0).toList = (([] : List Int).map (Value.int .i64)) := by rw [toList_madeCells_one]; rfl
  rw [e0] at hown
  have ho : OwI w.heap.size w1.heap.size w1 _ [] := .mk hown (by omega) (by simp)
  clear hgr hown
  go_wp2
  refine wp_loop_rounds 1 ?_
  rw [rounds_succ]
  go_wp2_with fail
  refine (wz_nil _ _ _).mono ?_
  rintro e w2 ⟨rfl, hq⟩
  have hB := hbl.qt hq
  have h2 : OwI w.heap.size w2.heap.size w2 (Value.slice (some { block := w.heap.size, off := 0 }) 0 0) [] := by have := ho.qt hq; obtain ⟨p1, p2, p3, p4⟩ := this; exact ⟨p1, p2, p3, fun k hk => (p3.lt k hk).2⟩
  clear ho
  go_wp2
  go_ret2
  exact ⟨_, _, rfl, h2, hB⟩

/-- numbersOf of a list that the call owns -/
theorem numbersOfO {lo n : Nat} (v : Value) (os : List (Option Int)) (w : World) (ho : w.ownsRow lo 73 2 v n (flatO os)) (hl : ∀ j, j < os.length → OLim (os.getD j none)) (hn : n ≤ 1000000) (hI : ∀ x ∈ (numsOf os).1, I64 x) (hx : os.length = n) :
    Calls Try.prog 81 #[v] w fun e w' => ∃ a c, e = .returned (.tuple #[.slice a (numsOf os).1.length c, .int .i64 (numsOf os).2]) ∧ OwI w.heap.size w'.heap.size w' (.slice a (numsOf os).1.length c) (numsOf os).1 ∧ Below w.heap.size w w' := by
  have ho' := ho
  have hlen : (numsOf os).1.length ≤ 40 := by
    unfold numsOf
    split
    · simp
    · split
      · simp
      · show (trim (os.map numO)).length ≤ 40
        omega
  rcases ho.2 with ⟨rfl, h1⟩ | ⟨g, cap, cur, rfl, _⟩
  · have e := List.length_eq_zero_iff.1 (hx.trans h1)
    subst e
    exact numbersOf_nil w
  · exact (numbersOf_ne n g cap os w hx hn (ho'.lt _ rfl).2 (fun j hj => hl j (by omega)) (fun j hj => by
      obtain ⟨g1, g2⟩ := flatO_get os j (by omega)
      exact ⟨(ho'.cellAt _ (by omega)).trans g1, (ho'.cellAt _ (by omega)).trans g2⟩)).mono fun e w' ⟨a, c, he, hr, hb⟩ => ⟨a, c, he, .mk hr (by omega) hI, hb⟩

end Go.Proofs.Ytebgbplhcaocoaa
