/- The first vertices of the parts: the program. -/
import Derived.Test.YtgcidkcedfliiaaParts
import Derived.Test.YtgcidkcedfliiaaConPure
import Derived.Deep.RegionHeld3
set_option linter.unusedSimpArgs false
set_option linter.unusedVariables false
namespace Go.Proofs.Ytgcidkcedfliiaa
open Go.RowKit

def zs (L : List Nat) : List Int := L.map (fun n : Nat => (n : Int))
theorem zs_len (L : List Nat) : (zs L).length = L.length := by simp [zs]
theorem zs_get {L : List Nat} {v : Nat} (h : v < L.length) : (zs L).getD v 0 = (lab L v : Int) := by simp [zs, lab, List.getD, List.getElem?_eq_getElem h]
theorem zs_set (L : List Nat) (k m : Nat) : (zs L).set k (m : Int) = zs (L.set k m) := by simp [zs, List.map_set]
def vz (L : List Nat) : List Value := (zs L).map (Value.int .i64)
theorem vz_len (L : List Nat) : (vz L).length = L.length := by simp [vz, zs]
theorem vz_get {L : List Nat} {v : Nat} (h : v < L.length) : (vz L)[v]? = some (.int .i64 (lab L v : Int)) := by simp [vz, zs, lab, List.getD, List.getElem?_eq_getElem h]
theorem vz_set (L : List Nat) (k m : Nat) : (vz L).set k (.int .i64 (m : Int)) = vz (L.set k m) := by simp [vz, zs, List.map_set]
def nE (xss : List (List Int)) : List (Nat × Nat) := (pairs xss).map (fun e => (e.1.toNat, e.2.toNat))
theorem nE_len (xss : List (List Int)) : (nE xss).length = xss.length := by simp [nE, pairs]
theorem nE_get {s : Int} {xss : List (List Int)} (h : grB s xss = true) {k : Nat} (hk : k < xss.length) : ((nE xss).getD k (0, 0)).1 = ((pairs xss).getD k (0, 0)).1.toNat ∧ ((nE xss).getD k (0, 0)).2 = ((pairs xss).getD k (0, 0)).2.toNat := by
  have : k < (pairs xss).length := by rw [pairs_len]; exact hk
  simp [nE, List.getD, List.getElem?_eq_getElem this]
theorem nE_in {s : Nat} {xss : List (List Int)} (h : grB (s : Int) xss = true) : ∀ e ∈ nE xss, e.1 < s ∧ e.2 < s := by
  intro e he
  simp only [nE, pairs, List.map_map, List.mem_map] at he
  obtain ⟨r, hr, rfl⟩ := he
  obtain ⟨i, hi, rfl⟩ := List.getElem_of_mem hr
  have := (grB_iff h).2.2.2 i hi
  have e1 : xss.getD i [] = xss[i] := by simp [List.getD, List.getElem?_eq_getElem hi]
  rw [e1] at this
  simp only [Function.comp]
  omega
theorem relax_comm (L : List Nat) (a b m : Nat) : (L.set b m).set a m = (L.set a m).set b m := by
  by_cases h : a = b
  · rw [h]
  · exact List.set_comm _ _ (fun e => h e.symm)

theorem fold_snoc {α β : Type} (f : β → α → β) (l : List α) (b : β) (k : Nat) (d : α) (h : k < l.length) : (l.take (k+1)).foldl f b = f ((l.take k).foldl f b) (l.getD k d) := by
  rw [List.take_add_one, List.getElem?_eq_getElem h, List.foldl_append]
  simp [List.getD, List.getElem?_eq_getElem h]

theorem relax_len (F : List Nat) (e : Nat × Nat) : (relaxN F e).length = F.length := by simp [relaxN]
theorem foldr_len : ∀ (es : List (Nat × Nat)) (F : List Nat), (es.foldl relaxN F).length = F.length
  | [], F => rfl
  | e :: r, F => by rw [List.foldl_cons, foldr_len r, relax_len]
theorem roundsN_len (es : List (Nat × Nat)) (F : List Nat) : ∀ r, (roundsN es r F).length = F.length
  | 0 => rfl
  | r + 1 => by show (es.foldl relaxN (roundsN es r F)).length = _; rw [foldr_len, roundsN_len es F r]

end Go.Proofs.Ytgcidkcedfliiaa
