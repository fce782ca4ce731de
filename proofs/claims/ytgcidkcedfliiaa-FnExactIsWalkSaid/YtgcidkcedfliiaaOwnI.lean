/- The model's copies of lists of numbers, with and without zeros at the end. -/
import Derived.Test.YtgcidkcedfliiaaBase2
import Derived.Laws.AppendOwnNone
set_option linter.unusedSimpArgs false
set_option linter.unusedVariables false
namespace Go.Proofs.Ytgcidkcedfliiaa
open Go.RowKit

theorem own_some (n cap : Nat) (ad : Addr) (xs : List Int) (w : World) (hn : n ≤ 17592186044416) (hx : xs.length = n)
    (hc : ∀ j u, (xs.map (Value.int .i64))[j]? = some u → w.cell? (ad.add j) = some u) :
    Calls Try.prog 106 #[.slice (some ad) n cap] w fun e w' => ∃ v, e = .returned v ∧ w'.ownsRow w.heap.size 2 1 v n (xs.map (Value.int .i64)) ∧ Below w.heap.size w w' := by
  obtain ⟨i0, hi', z0, z1, z2⟩ := info_parts Try.info2
  have HC := Lib.hid hc
  have HX := Lib.hid hx
  clear hc hx
  have hown : (w.alloc (.cells #[] 2)).ownsRow w.heap.size 2 1 (.slice (some ⟨w.heap.size, 0, none⟩) 0 0) 0 [] := World.ownsRow_lit w #[] 0 (Nat.le_refl _) (by unfold maxLen; omega) rfl
  go_enter Try.func106, Try.ntmps106
  go_wp2_with (at_builtin; refine wpList_append_own _ rfl _ _ 25 rfl w.heap.size 2 i0 (.int .i64 0) 1 8 Try.underlying25 hi' z0 z1 z2 rfl (by decide) _ _ _ rfl hown ad n cap (xs.map (Value.int .i64)) rfl ?c0 ?c1 ?c2 ?c3 ?c4 ?c5 ?_)
  case c0 => rw [List.length_map, HX.out]; omega
  case c1 =>
    intro j u hj
    have h1 := HC.out j u hj
    have hb := World.block_lt_of_cell? w _ h1
    exact (World.cell?_of_block (w := w) (Below.heap_alloc w _ _ hb)).trans h1
  case c2 => intro u hu; simp at hu; obtain ⟨x, _, rfl⟩ := hu; rfl
  case c3 => unfold maxLen; omega
  case c4 => omega
  case c5 => simp
  intro v3 w3 hown3 hgr _
  have hb : Below w.heap.size w w3 := ((Below.refl w.heap.size w).alloc (Nat.le_refl _) (.cells #[] 2)).grown hgr (by simp) (fun k hk => by have := (hown.lt k hk).1; omega)
  clear hgr hown
  go_wp2
  go_ret
  exact ⟨_, rfl, hown3, hb⟩

theorem own_none (cap : Nat) (w : World) :
    Calls Try.prog 106 #[.slice none 0 cap] w fun e w' => ∃ v, e = .returned v ∧ w'.ownsRow w.heap.size 2 1 v 0 [] ∧ Below w.heap.size w w' := by
  obtain ⟨i0, hi', z0, z1, z2⟩ := info_parts Try.info2
  have hown : (w.alloc (.cells #[] 2)).ownsRow w.heap.size 2 1 (.slice (some ⟨w.heap.size, 0, none⟩) 0 0) 0 [] := World.ownsRow_lit w #[] 0 (Nat.le_refl _) (by unfold maxLen; omega) rfl
  have hb : Below w.heap.size w (w.alloc (.cells #[] 2)) := (Below.refl w.heap.size w).alloc (Nat.le_refl _) _
  go_enter Try.func106, Try.ntmps106
  go_wp2
  go_ret
  exact ⟨_, rfl, hown, hb⟩

theorem l01Own {lo hi : Nat} (v : Value) (xs : List Int) (w : World) (h : RdI lo hi w v xs) :
    Calls Try.prog 106 #[v] w fun e w' => ∃ a c, e = .returned (.slice a xs.length c) ∧ OwI w.heap.size w'.heap.size w' (.slice a xs.length c) xs ∧ Below w.heap.size w w' := by
  obtain ⟨h1, h2, h⟩ := h
  have fin : ∀ (e : Ending) (w' : World) v', e = .returned v' → w'.ownsRow w.heap.size 2 1 v' xs.length (xs.map (Value.int .i64)) → Below w.heap.size w w' → ∃ a c, e = .returned (.slice a xs.length c) ∧ OwI w.heap.size w'.heap.size w' (.slice a xs.length c) xs ∧ Below w.heap.size w w' := by
    intro e w' v' he ho hb
    have ho : OwI w.heap.size w'.heap.size w' v' xs := .mk ho h1 h2
    obtain ⟨a, c, hv⟩ := ho.rd.shape
    subst hv
    exact ⟨a, c, he, ho, hb⟩
  rcases h with ⟨a, cap, rfl, rfl⟩ | ⟨b, off, cap, rfl, h0, hlo, hhi, hc⟩
  · cases a with
    | none => exact (own_none cap w).mono fun e w' ⟨v', he, ho, hb⟩ => fin e w' v' he ho hb
    | some ad => exact (own_some 0 cap ad [] w (by omega) rfl (fun j u hj => by simp at hj)).mono fun e w' ⟨v', he, ho, hb⟩ => fin e w' v' he ho hb
  · refine (own_some xs.length cap ⟨b, off, none⟩ xs w h1 rfl (fun j u hj => ?_)).mono fun e w' ⟨v', he, ho, hb⟩ => fin e w' v' he ho hb
    have hj' : j < xs.length := by
      have := (List.getElem?_eq_some_iff.1 hj).1
      simpa using this
    have ea : (({ block := b, off := off } : Addr).add j) = ⟨b, off + j, none⟩ := by simp [Addr.add]
    rw [ea, hc j hj']
    simp only [List.getElem?_map, List.getElem?_eq_getElem hj', Option.map_some] at hj
    simpa [List.getD, List.getElem?_eq_getElem hj'] using hj

end Go.Proofs.Ytgcidkcedfliiaa
