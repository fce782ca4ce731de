/- A closed walk turned, by the model. -/
import Derived.Test.YtebgbplhcaocoaaCoreF
import Derived.Test.YtebgbplhcaocoaaCoreB
import Derived.Deep.AppendLies
import Derived.Deep.RegionHeld3
set_option linter.unusedSimpArgs false
set_option linter.unusedVariables false
namespace Go.Proofs.Ytebgbplhcaocoaa
open Go.RowKit

theorem RdI.drop {lo hi : Nat} {w : World} {b off cap : Nat} {xs : List Int} {n k : Nat} (h : RdI lo hi w (.slice (some ⟨b, off, none⟩) n cap) xs) (hn : xs.length = n) (hk : k < n) : RdI lo hi w (.slice (some ⟨b, off + k, none⟩) (n - k) (cap - k)) (xs.drop k) := by
  obtain ⟨h1, h2, h⟩ := h
  have hl : (xs.drop k).length = n - k := by rw [List.length_drop]; omega
  refine ⟨by omega, fun x hx => h2 x (List.mem_of_mem_drop hx), ?_⟩
  rcases h with ⟨a, c, rfl, _⟩ | ⟨b', off', cap', hv, h0', hlo, hhi, hc⟩
  · simp at hn; omega
  · simp only [Value.slice.injEq, Option.some.injEq, Addr.mk.injEq] at hv
    obtain ⟨⟨rfl, rfl, _⟩, _, rfl⟩ := hv
    refine .inr ⟨b, off + k, cap - k, by rw [hl], by omega, hlo, hhi, fun j hj => ?_⟩
    rw [Nat.add_assoc, hc (k + j) (by omega)]
    simp [List.getD, List.getElem?_drop]

set_option maxRecDepth 100000 in
set_option maxHeartbeats 1600000 in
theorem l03Turn {lo hi : Nat} (b off n c : Nat) (ws : List Int) (k : Nat) (w : World) (h : RdI lo hi w (.slice (some ⟨b, off, none⟩) n c) ws) (hl : ws.length = n) (hcap : n ≤ c) (h0 : 0 < k) (hk : k < n) (hn : n ≤ 1000) :
    Calls Try.prog 162 #[.slice (some ⟨b, off, none⟩) n c, .int .i64 k] w fun e w' => ∃ a' c', e = .returned (.slice a' n c') ∧ OwI w.heap.size w'.heap.size w' (.slice a' n c') (turnL ws k) ∧ Below w.heap.size w w' := by
  obtain ⟨i0, hi', z0, z1, z2⟩ := info_parts Try.info2
  have HD := Lib.hid (h.drop hl hk)
  have hld : (ws.drop k).length = n - k := by rw [List.length_drop]; omega
  have hlt : (ws.take k).length = k := by rw [List.length_take]; omega
  have hi1 : (0 : Int) ≤ (k : Int) := by omega
  have hi2 : (k : Int) ≤ (n : Int) := by omega
  have hi3 : (n : Int) ≤ (c : Int) := by omega
  have hi4 : (k : Int) ≤ (c : Int) := by omega
  have HO := Lib.hid (show ∀ W', RdI lo hi W' (.slice (some ⟨b, off + k, none⟩) (n - k) (c - k)) (ws.drop k) → Calls Try.prog 132 #[.slice (some ⟨b, off + k, none⟩) (n - k) (c - k)] W' fun e w' => ∃ a c', e = .returned (.slice a (n - k) c') ∧ w'.ownsRow W'.heap.size 2 1 (.slice a (n - k) c') (n - k) ((ws.drop k).map (Value.int .i64)) ∧ Below W'.heap.size W' w' from fun W' h' => by
    have h9 := l01Own _ _ W' h'
    rw [hld] at h9
    refine h9.mono ?_
    rintro e w' ⟨a, c', he, ho, hb⟩
    have ho2 := ho.2.2.1
    rw [hld] at ho2
    exact ⟨a, c', he, ho2, hb⟩)
  have HSRC := Lib.hid (show ∀ W', Below w.heap.size w W' → ∀ (j : Nat) (u : Value), ((ws.take k).map (Value.int .i64))[j]? = some u → W'.cell? ((⟨b, off, none⟩ : Addr).add j) = some u from fun W' hb j u hu => by
    have hj : j < k := by
      have := (List.getElem?_eq_some_iff.1 hu).1
      rw [List.length_map, hlt] at this
      exact this
    obtain ⟨b', off', hbb, g0⟩ := h.at hl j (by omega)
    obtain ⟨rfl, rfl⟩ : b' = b ∧ off' = off := by simp at hbb; exact ⟨hbb.1.symm, hbb.2.symm⟩
    have hadd : (⟨b', off', none⟩ : Addr).add j = ⟨b', off' + j, none⟩ := by unfold Addr.add; split <;> simp_all
    rw [hadd, hb.keep g0]
    rw [← hu]
    simp [List.getD, List.getElem?_take, hj, show j < ws.length by omega])
  have HONE := Lib.hid (show ∀ u ∈ (ws.take k).map (Value.int .i64), u.oneCell' = true from fun u hu => by
    simp only [List.mem_map] at hu
    obtain ⟨x, _, rfl⟩ := hu
    rfl)
  have hnl : ((ws.take k).map (Value.int .i64)).length = k * 1 := by rw [List.length_map, hlt]; omega
  have HNL := Lib.hid hnl
  have hcat : (ws.drop k).map (Value.int .i64) ++ (ws.take k).map (Value.int .i64) = (turnL ws k).map (Value.int .i64) := by simp [turnL]
  have HCAT := Lib.hid (⟨hcat, fun x hx => h.2.1 x (show x ∈ ws by
    unfold turnL at hx
    rcases List.mem_append.1 hx with h | h
    · exact List.mem_of_mem_drop h
    · exact List.mem_of_mem_take h)⟩ : _ ∧ ∀ x ∈ turnL ws k, I64 x)
  have hm63 : n - k + k ≤ maxLen := by unfold maxLen; omega
  have hby : (n - k + k) * 8 ≤ 140737488355328 := by omega
  have hck : ¬ c = k := by omega
  clear hld hlt hl h hnl hcat
  go_enter Try.func162, Try.ntmps162
  go_wp2
  go_region_law (first
    | (go_simp; go_at_call 132; refine (HO.out _ (HD.out.qt (Qt.refl _).drew)).mono ?_; rintro e w1 ⟨a2, c2, rfl, o2, b2⟩; have bb := ((Qt.refl w).drew).below.next b2; have hsz := bb.size)
    | (refine step_append_lies w1 rfl (.tmp 8) (.tmp 11) 37 rfl w.heap.size 2 i0 (.int .i64 0) 1 8 Try.underlying37 hi' z0 z1 z2 rfl (by decide) (.slice a2 (n - k) c2) (n - k) ((ws.drop k).map (Value.int .i64)) (by simp [Act.eval, Act.put]) o2 ⟨b, off, none⟩ k c ((ws.take k).map (Value.int .i64)) (by simp [Act.eval, Act.put]) HNL.out (HSRC.out w1 bb) HONE.out h0 hm63 hby hsz w1.heap.size rfl ?_; intro g2 c3 w3 hown3 hgr hlie hlt3))
  all_goals
    have enk : n - k + k = n := by omega
    rw [enk, HCAT.out.1] at hown3
    rw [enk]
    have hB3 : Below w.heap.size w w3 := bb.grown hgr hsz (fun j e => (o2.lt j e).1)
    have HF := Lib.hid (⟨OwI.mk hown3 (by omega) HCAT.out.2, hB3⟩ : OwI w.heap.size w3.heap.size w3 (.slice (some ⟨g2, 0, none⟩) n c3) (turnL ws k) ∧ Below w.heap.size w w3)
    clear hgr hlie hlt3 hown3 hB3 enk hm63 hby hck
    go_wp2
    go_ret
    exact ⟨some ⟨g2, 0, none⟩, c3, rfl, HF.out⟩

end Go.Proofs.Ytebgbplhcaocoaa
