/- slices.Delete on a list of edges. -/
import Derived.Test.YtecobmmlpoaggaaSpecDel
import Derived.Test.YtecobmmlpoaggaaImplDegrees2
import Derived.Deep.RegionLaw
set_option linter.unusedSimpArgs false
set_option linter.unusedVariables false
namespace Go.RowKit
theorem chg_setCells (g : Nat) : ∀ (vs : List Value) (o : Nat) (w : World), Chg g (g+1) w (w.setCells g o vs)
  | [], _, w => Chg.refl _ _ _
  | v :: r, o, w => ((Chg.refl g (g+1) w).setCell (p := ⟨g, o, none⟩) ⟨Nat.le_refl _, Nat.lt_succ_self _⟩ v).trans (chg_setCells g r (o+1) _)
/-- 'clear(s)' on a slice of one element of two numbers -/
theorem run_clear_two {P : Program} (w : World) (t e ty : TypeId) (ht : P.underlying t = some (.slice e)) (hv : ∀ w, (zeroValue e).run P w = .ok (.agg #[.int .i64 0, .int .i64 0]) w) (b o c : Nat)
    (hc : ∀ j, j < 2 → (w.cell? ⟨b, o + j, none⟩).isSome = true) (hf : ∀ j, j < 2 → w.frozen? ⟨b, o + j, none⟩ = false) :
    (Builtin.clear_ #[t] ty #[.slice (some ⟨b, o, none⟩) 1 c]).run P w = .ok (.tuple #[]) (w.setCells b o [.int .i64 0, .int .i64 0]) := by
  have hzc : (Builtin.zeroCells (Value.agg #[.int .i64 0, .int .i64 0]).cells 1).toList = [.int .i64 0, .int .i64 0] := by
    simp [Builtin.zeroCells, Value.cells]; rfl
  have hst := run_storeCells_cells (P := P) b o [.int .i64 0, .int .i64 0] 0 w (by simpa using hc) (by simpa using hf) (by intro v hv'; simp at hv'; subst hv'; rfl)
  simp only [Nat.add_zero] at hst
  simp [Builtin.clear_, run_underlying ht, hv, hzc, hst]
end Go.RowKit
namespace Go.Proofs.Ytecobmmlpoaggaa
open Go.RowKit

theorem zero_edge : ∀ w, (zeroValue 64).run Try.prog w = .ok (.agg #[.int .i64 0, .int .i64 0]) w := fun w => by kernel_rfl
theorem flat_erase (es : List (Int × Int)) (k j : Nat) : (flat (es.eraseIdx k))[j]? = if j < k * 2 then (flat es)[j]? else (flat es)[j + 2]? := by
  induction es generalizing k j with
  | nil => simp [flat]
  | cons e r ih =>
    cases k with
    | zero => simp [flat]
    | succ k =>
      rw [List.eraseIdx_cons_succ]
      match j with
      | 0 => simp [flat]
      | 1 => rw [if_pos (by omega)]; simp [flat]
      | j + 2 =>
        have := ih k j
        simp only [flat, List.flatMap_cons, List.cons_append, List.nil_append, List.getElem?_cons_succ] at this ⊢
        rw [this]
        by_cases h : j < k * 2
        · rw [if_pos h, if_pos (by omega)]
        · rw [if_neg h, if_neg (by omega)]

set_option maxRecDepth 1000000 in
set_option maxHeartbeats 3200000 in
theorem slDelete (g c k r : Nat) (es : List (Int × Int)) (w : World) (hn : es.length = k + r + 1) (hcn : k + r + 1 ≤ c) (hn1 : k + r + 1 ≤ 1000)
    (hcell : ∀ j, j < k + r + 1 → w.cell? ⟨g, j * 2, none⟩ = some (.int .i64 (es.getD j (0, 0)).1) ∧ w.cell? ⟨g, j * 2 + 1, none⟩ = some (.int .i64 (es.getD j (0, 0)).2))
    (hf : ∀ j, j < (k + r + 1) * 2 → w.frozen? ⟨g, j, none⟩ = false) :
    Calls Try.prog 103 #[.slice (some ⟨g, 0, none⟩) (k + r + 1) c, .int .i64 k, .int .i64 ((k : Int) + 1)] w fun e w' => e = .returned (.slice (some ⟨g, 0, none⟩) (k + r) c) ∧
      (∀ j, j < k + r → w'.cell? ⟨g, j * 2, none⟩ = some (.int .i64 ((es.eraseIdx k).getD j (0, 0)).1) ∧ w'.cell? ⟨g, j * 2 + 1, none⟩ = some (.int .i64 ((es.eraseIdx k).getD j (0, 0)).2)) ∧
      (∀ j, w'.frozen? ⟨g, j, none⟩ = w.frozen? ⟨g, j, none⟩) ∧ Chg g (g+1) w w' := by
  obtain ⟨i0, hi', z0, z1, z2⟩ := info_parts Try.info64
  have hflat : ∀ j, j < (k + r + 1) * 2 → ∃ v, (flat es)[j]? = some v ∧ w.cell? ⟨g, j, none⟩ = some v := by
    intro j hj
    have hlt : j / 2 < es.length := by omega
    obtain ⟨f1, f2⟩ := flat_getE es (j / 2) hlt
    obtain ⟨c1, c2⟩ := hcell (j / 2) (by omega)
    have hm : j % 2 = 0 ∨ j % 2 = 1 := by omega
    rcases hm with h | h
    · have e : j / 2 * 2 = j := by omega
      rw [e] at f1 c1
      exact ⟨_, f1, c1⟩
    · have e : j / 2 * 2 + 1 = j := by omega
      rw [e] at f2 c2
      exact ⟨_, f2, c2⟩
  obtain ⟨news, hnews⟩ : ∃ news, news = (flat es).drop ((k + 1) * 2) := ⟨_, rfl⟩
  have hlen : news.length = r * 2 := by rw [hnews, List.length_drop, flat_len, hn]; omega
  obtain ⟨A, hA, hsrc⟩ : ∃ A : Addr, (if c = k + 1 then some (⟨g, 0, none⟩ : Addr) else some ⟨g, (k + 1) * 2, none⟩) = some A ∧ Hid (∀ t u, news[t]? = some u → w.drew.cell? (A.add t) = some u) := by
    by_cases h : c = k + 1
    · refine ⟨⟨g, 0, none⟩, by simp [h], Lib.hid (fun t u hu => ?_)⟩
      have h0 : news.length = 0 := by rw [hlen]; omega
      rw [List.length_eq_zero_iff.1 h0] at hu
      simp at hu
    · refine ⟨⟨g, (k + 1) * 2, none⟩, by simp [h], Lib.hid (fun t u hu => ?_)⟩
      have ht : t < r * 2 := by
        have := (List.getElem?_eq_some_iff.1 hu).1
        omega
      rw [hnews, List.getElem?_drop] at hu
      obtain ⟨v, hv1, hv2⟩ := hflat ((k + 1) * 2 + t) (by omega)
      rw [hv1] at hu
      rw [Addr.add_lit]
      exact hv2.trans hu
  have s2 : Hid (∀ u ∈ news, u.oneCell' = true) := Lib.hid (by
    intro u hu
    rw [hnews] at hu
    have := List.mem_of_mem_drop hu
    simp only [flat, List.mem_flatMap] at this
    obtain ⟨x, _, hx⟩ := this
    simp at hx
    rcases hx with rfl | rfl <;> rfl)
  have s3 : Hid (∀ t, t < news.length → (w.drew.cell? ⟨g, 0 + k * 2 + t, none⟩).isSome = true ∧ w.drew.frozen? ⟨g, 0 + k * 2 + t, none⟩ = false) := Lib.hid (by
    intro t ht
    obtain ⟨v, _, hv2⟩ := hflat (k * 2 + t) (by omega)
    rw [Nat.zero_add]
    exact ⟨by show (w.cell? _).isSome = true; rw [hv2]; rfl, hf (k * 2 + t) (by omega)⟩)
  obtain ⟨W1, hW1⟩ : ∃ W1, W1 = w.drew.setCells g (0 + k * 2) news := ⟨_, rfl⟩
  have hfz : ∀ p, W1.frozen? p = w.frozen? p := fun p => by rw [hW1, World.frozen?_setCells]; rfl
  have hout : ∀ j, j < (k + r + 1) * 2 → (j < k * 2 ∨ k * 2 + r * 2 ≤ j) → W1.cell? ⟨g, j, none⟩ = w.cell? ⟨g, j, none⟩ := fun j _ h => by
    rw [hW1, World.cell?_setCells_out]; rfl
    intro _ _; simp only; omega
  have hin : ∀ t, t < r * 2 → W1.cell? ⟨g, k * 2 + t, none⟩ = (flat es)[(k + 1) * 2 + t]? := fun t ht => by
    have := World.cell?_setCells_in g news (0 + k * 2) w.drew (fun j hj => (s3.out j hj).1) t (by omega)
    rw [Nat.zero_add] at this
    rw [hW1, Nat.zero_add, this]
    have e : news[t]? = (flat es)[(k + 1) * 2 + t]? := by rw [hnews, List.getElem?_drop]
    rw [← e, List.getElem?_eq_getElem (by omega)]
  have hcl : ∀ ty, (Builtin.clear_ #[61] ty #[.slice (some ⟨g, (k + r) * 2, none⟩) 1 (c - (k + r))]).run Try.prog W1 = .ok (.tuple #[]) (W1.setCells g ((k + r) * 2) [.int .i64 0, .int .i64 0]) := fun ty =>
    run_clear_two W1 _ _ ty Try.underlying61 zero_edge g ((k + r) * 2) (c - (k + r)) (fun j hj => by
      rw [hout _ (by omega) (by omega)]
      obtain ⟨v, _, hv⟩ := hflat ((k + r) * 2 + j) (by omega)
      rw [hv]; rfl) (fun j hj => by rw [hfz]; exact hf _ (by omega))
  have hW : Hid (W1 = w.drew.setCells g (0 + k * 2) news) := Lib.hid hW1
  have HH := Lib.hid (⟨hflat, hfz, hout, hin, hf, hlen, hn⟩ : _ ∧ _ ∧ _ ∧ _ ∧ _ ∧ _ ∧ _)
  have hk1 : k ≤ c := by omega
  have hwr : IntKind.i64.wrap ((k : Int) + 1) = (k : Int) + 1 := IntWalk.i64_in _ (by omega)
  clear hW1 hflat hfz hout hin hnews hcell hf hn
  go_enter Try.func103, Try.ntmps103
  have hsub : k + r + 1 - (k + 1) = r := by omega
  have hsub2 : k + r + 1 - (k + r) = 1 := by omega
  have hp0 : (0 : Int) ≤ (k : Int) + 1 := by omega
  have hp1 : (k : Int) + 1 ≤ ((k : Int) + (r : Int) + 1) := by omega
  have hp2 : ((k : Int) + 1).toNat = k + 1 := by omega
  have hk2 : k + 1 ≤ c := by omega
  have hneq : ¬ c = k + r := by omega
  go_wp2_with fail
  go_region_law (refine step_append_room rfl (.tmp 22) (.tmp 25) 61 rfl 64 i0 2 Try.underlying61 hi' z1 g 0 k c (by simp [Act.eval, Act.put]) A r (c - (k + 1)) news (by simp [Act.eval, Act.put]) HH.out.2.2.2.2.2.1 hsrc.out s2.out (by omega) s3.out ?_; rw [← hW.out])
  all_goals
    go_wp2
    go_ret
    obtain ⟨hflat, hfz, hout, hin, hf, hlen, hn⟩ := HH.out
    have hW2 : ∀ j, j < (k + r) * 2 → (W1.setCells g ((k + r) * 2) [.int .i64 0, .int .i64 0]).cell? ⟨g, j, none⟩ = (flat (es.eraseIdx k))[j]? := by
      intro j hj
      rw [World.cell?_setCells_out _ _ _ _ _ (fun _ _ => by simp only; omega), flat_erase]
      by_cases h : j < k * 2
      · rw [hout j (by omega) (.inl h), if_pos h]
        obtain ⟨v, h1, h2⟩ := hflat j (by omega)
        rw [h1, h2]
      · rw [if_neg h]
        have := hin (j - k * 2) (by omega)
        have e1 : k * 2 + (j - k * 2) = j := by omega
        have e2 : (k + 1) * 2 + (j - k * 2) = j + 2 := by omega
        rw [e1, e2] at this
        exact this
    have hle : (es.eraseIdx k).length = k + r := by rw [List.length_eraseIdx, if_pos (by omega)]; omega
    refine ⟨rfl, fun j hj => ?_, fun j => ?_, ?_⟩
    · obtain ⟨f1, f2⟩ := flat_getE (es.eraseIdx k) j (by omega)
      exact ⟨(hW2 (j * 2) (by omega)).trans f1, (hW2 (j * 2 + 1) (by omega)).trans f2⟩
    · rw [World.frozen?_setCells]; exact hfz _
    · rw [hW.out]
      exact ((Qt.refl w).drew.chg g (g+1)).trans ((chg_setCells g _ _ _).trans (chg_setCells g _ _ _))

end Go.Proofs.Ytecobmmlpoaggaa
