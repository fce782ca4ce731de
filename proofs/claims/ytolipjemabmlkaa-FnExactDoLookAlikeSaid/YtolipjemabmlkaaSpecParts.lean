/- The least vertices of the parts: the model. -/
import Derived.Test.YtolipjemabmlkaaCoreB
set_option linter.unusedSimpArgs false
set_option linter.unusedVariables false
namespace Go.Proofs.Ytolipjemabmlkaa
open Go.RowKit

def mgP (hi lo : Nat) (F : List Nat) (j : Nat) : List Nat := (F.take j).map (fun z => if z = hi then lo else z) ++ F.drop j
theorem mgP_len (hi lo : Nat) (F : List Nat) (j : Nat) : (mgP hi lo F j).length = F.length := by simp [mgP]; omega
theorem mgP_get {hi lo : Nat} {F : List Nat} {j : Nat} (h : j < F.length) : lab (mgP hi lo F j) j = lab F j := by
  have hl : ((F.take j).map (fun z => if z = hi then lo else z)).length = j := by rw [List.length_map, List.length_take]; omega
  simp only [mgP, lab, List.getD]
  rw [List.getElem?_append_right (by omega), hl, Nat.sub_self, List.getElem?_drop]
  rfl
theorem drop_cons {F : List Nat} {j : Nat} (h : j < F.length) : F.drop j = lab F j :: F.drop (j + 1) := by
  rw [List.drop_eq_getElem_cons h]
  simp [lab, List.getD, List.getElem?_eq_getElem h]
theorem take_lab {F : List Nat} {j : Nat} (h : j < F.length) : F.take (j + 1) = F.take j ++ [lab F j] := by
  rw [List.take_add_one, List.getElem?_eq_getElem h]
  simp [lab, List.getD, List.getElem?_eq_getElem h]
theorem mgP_set {hi lo : Nat} {F : List Nat} {j : Nat} (h : j < F.length) : (mgP hi lo F j).set j (if lab F j = hi then lo else lab F j) = mgP hi lo F (j + 1) := by
  have hl : ((F.take j).map (fun z => if z = hi then lo else z)).length = j := by rw [List.length_map, List.length_take]; omega
  unfold mgP
  rw [List.set_append_right _ _ (by omega), hl, Nat.sub_self, drop_cons h, List.set_cons_zero, take_lab h, List.map_append, List.append_assoc]
  rfl
theorem mgP_same {hi lo : Nat} {F : List Nat} {j : Nat} (h : j < F.length) (hne : ¬ lab F j = hi) : mgP hi lo F (j + 1) = mgP hi lo F j := by
  unfold mgP
  rw [drop_cons h, take_lab h, List.map_append, List.append_assoc]
  simp [hne]
theorem mgP_all (e : Nat × Nat) (F : List Nat) {hi lo : Nat} (h1 : hi = max (lab F e.1) (lab F e.2)) (h2 : lo = min (lab F e.1) (lab F e.2)) : mgP hi lo F F.length = mergeN F e := by
  unfold mgP mergeN
  rw [h1, h2]; simp
theorem merge_len (F : List Nat) (e : Nat × Nat) : (mergeN F e).length = F.length := by simp [mergeN]
theorem foldm_len : ∀ (es : List (Nat × Nat)) (F : List Nat), (es.foldl mergeN F).length = F.length
  | [], F => rfl
  | e :: r, F => by rw [List.foldl_cons, foldm_len r, merge_len]
theorem zs_snoc_range (k : Nat) : vz (List.range (k + 1)) = vz (List.range k) ++ [.int .i64 (k : Int)] := by
  unfold vz zs
  rw [List.range_succ]; simp

end Go.Proofs.Ytolipjemabmlkaa
