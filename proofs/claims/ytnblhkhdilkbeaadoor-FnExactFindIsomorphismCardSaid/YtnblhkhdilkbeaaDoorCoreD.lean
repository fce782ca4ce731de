/- Merged: SpecParts, PartRows (the plain kit of these proofs). -/
import Derived.Test.YtnblhkhdilkbeaaDoorCoreB
set_option linter.unusedSimpArgs false
set_option linter.unusedVariables false
/- The least vertices of the parts: the model. -/
namespace Go.Proofs.YtnblhkhdilkbeaaDoor
open Go.RowKit

def mgP (hi lo : Nat) (F : List Nat) (j : Nat) : List Nat := (F.take j).map (fun z => if z = hi then lo else z) ++ F.drop j
theorem mgP_len (hi lo : Nat) (F : List Nat) (j : Nat) : (mgP hi lo F j).length = F.length := by simp [mgP]; omega
theorem mgP_get {hi lo : Nat} {F : List Nat} {j : Nat} (h : j < F.length) : lab (mgP hi lo F j) j = lab F j := by
  have hl : ((F.take j).map (fun z => if z = hi then lo else z)).length = j := by rw [List.length_map, List.length_take]; omega
  simp only [mgP, lab, List.getD]
  rw [List.getElem?_append_right (by omega), hl, Nat.sub_self, List.getElem?_drop]
  rfl
theorem drop_cons {F : List Nat} {j : Nat} (h : j < F.length) : F.drop j = lab F j :: F.drop (j + 1) := by
  rw [List.drop_eq_getElem_cons h]
  simp [lab, List.getD, List.getElem?_eq_getElem h]
theorem take_lab {F : List Nat} {j : Nat} (h : j < F.length) : F.take (j + 1) = F.take j ++ [lab F j] := by
  rw [List.take_add_one, List.getElem?_eq_getElem h]
  simp [lab, List.getD, List.getElem?_eq_getElem h]
theorem mgP_set {hi lo : Nat} {F : List Nat} {j : Nat} (h : j < F.length) : (mgP hi lo F j).set j (if lab F j = hi then lo else lab F j) = mgP hi lo F (j + 1) := by
  have hl : ((F.take j).map (fun z => if z = hi then lo else z)).length = j := by rw [List.length_map, List.length_take]; omega
  unfold mgP
  rw [List.set_append_right _ _ (by omega), hl, Nat.sub_self, drop_cons h, List.set_cons_zero, take_lab h, List.map_append, List.append_assoc]
  rfl
theorem mgP_same {hi lo : Nat} {F : List Nat} {j : Nat} (h : j < F.length) (hne : ¬ lab F j = hi) : mgP hi lo F (j + 1) = mgP hi lo F j := by
  unfold mgP
  rw [drop_cons h, take_lab h, List.map_append, List.append_assoc]
  simp [hne]
theorem mgP_all (e : Nat × Nat) (F : List Nat) {hi lo : Nat} (h1 : hi = max (lab F e.1) (lab F e.2)) (h2 : lo = min (lab F e.1) (lab F e.2)) : mgP hi lo F F.length = mergeN F e := by
  unfold mgP mergeN
  rw [h1, h2]; simp
theorem merge_len (F : List Nat) (e : Nat × Nat) : (mergeN F e).length = F.length := by simp [mergeN]
theorem foldm_len : ∀ (es : List (Nat × Nat)) (F : List Nat), (es.foldl mergeN F).length = F.length
  | [], F => rfl
  | e :: r, F => by rw [List.foldl_cons, foldm_len r, merge_len]
theorem zs_snoc_range (k : Nat) : vz (List.range (k + 1)) = vz (List.range k) ++ [.int .i64 (k : Int)] := by
  unfold vz zs
  rw [List.range_succ]; simp

end Go.Proofs.YtnblhkhdilkbeaaDoor

/- Parts of graphs as rows; a list of rows under way that may be nil. -/
namespace Go.Proofs.YtnblhkhdilkbeaaDoor
open Go.RowKit

def rowP (L : List Nat) (v j : Nat) : List Nat := (List.range j).filter (fun w => lab L w == v)
def rootsN (L : List Nat) (k : Nat) : List Nat := (List.range k).filter (fun v => lab L v == v)
def partsN (L : List Nat) (k : Nat) : List (List Nat) := (rootsN L k).map (fun v => rowP L v L.length)
def partsOf (s : Int) (xss : List (List Int)) : List (List Int) × Int :=
  if grB s xss = true then ((partsN (labelsN s.toNat (nE xss)) s.toNat).map zs, 0) else ([], 1)
theorem rowP_in {L : List Nat} {v j : Nat} (h : lab L j = v) : rowP L v (j + 1) = rowP L v j ++ [j] := by simp [rowP, List.range_succ, List.filter_append, h]
theorem rowP_out {L : List Nat} {v j : Nat} (h : ¬ lab L j = v) : rowP L v (j + 1) = rowP L v j := by simp [rowP, List.range_succ, List.filter_append, h]
theorem rowP_le (L : List Nat) (v j : Nat) : (rowP L v j).length ≤ j := by
  have := List.length_filter_le (fun w => lab L w == v) (List.range j)
  simpa [rowP] using this
theorem rowP_lt {L : List Nat} {v j x : Nat} (h : x ∈ rowP L v j) : x < j := by
  simp only [rowP, List.mem_filter, List.mem_range] at h; exact h.1
theorem rootsN_in {L : List Nat} {k : Nat} (h : lab L k = k) : rootsN L (k + 1) = rootsN L k ++ [k] := by simp [rootsN, List.range_succ, List.filter_append, h]
theorem rootsN_out {L : List Nat} {k : Nat} (h : ¬ lab L k = k) : rootsN L (k + 1) = rootsN L k := by simp [rootsN, List.range_succ, List.filter_append, h]
theorem rootsN_le (L : List Nat) (k : Nat) : (rootsN L k).length ≤ k := by
  have := List.length_filter_le (fun w => lab L w == w) (List.range k)
  simpa [rootsN] using this
theorem partsN_in {L : List Nat} {k : Nat} (h : lab L k = k) : partsN L (k + 1) = partsN L k ++ [rowP L k L.length] := by simp [partsN, rootsN_in h]
theorem partsN_out {L : List Nat} {k : Nat} (h : ¬ lab L k = k) : partsN L (k + 1) = partsN L k := by simp [partsN, rootsN_out h]
theorem partsN_len (L : List Nat) (k : Nat) : (partsN L k).length = (rootsN L k).length := by simp [partsN]
theorem row_pos {L : List Nat} {k s : Nat} (hk : k < s) (h : lab L k = k) : 0 < (rowP L k s).length := by
  have : k ∈ rowP L k s := by simp [rowP, hk, h]
  exact List.length_pos_of_mem this
theorem row_zero {P : List (Nat × Nat)} {L : List Nat} {k s : Nat} (hL : LabI s P L) (hk : k < s) (h : ¬ lab L k = k) : rowP L k s = [] := by
  rw [List.eq_nil_iff_forall_not_mem]
  intro x hx
  simp only [rowP, List.mem_filter, List.mem_range, beq_iff_eq] at hx
  have := hL.idem x hx.1
  rw [hx.2] at this
  exact h this
theorem rowP_I64 {L : List Nat} {v j : Nat} (hj : j ≤ 1000) : ∀ x ∈ zs (rowP L v j), I64 x := by
  intro x hx
  simp only [zs, List.mem_map] at hx
  obtain ⟨y, hy, rfl⟩ := hx
  have := rowP_lt hy
  unfold I64; omega
theorem vz_snoc (L : List Nat) (j : Nat) : vz (L ++ [j]) = vz L ++ [.int .i64 (j : Int)] := by simp [vz, zs]
theorem parts_lens (L : List Nat) (k : Nat) : lens ((partsN L k).map zs) ≤ k * L.length := by
  have h : ∀ (l : List Nat), lens ((l.map (fun v => rowP L v L.length)).map zs) ≤ l.length * L.length := by
    intro l
    induction l with
    | nil => simp [lens]
    | cons x r ih =>
      have h1 := rowP_le L x L.length
      simp only [lens, List.map_cons, List.sum_cons, List.length_cons, zs_len] at ih ⊢
      rw [Nat.succ_mul]; omega
  have h2 := h (rootsN L k)
  have h3 : (rootsN L k).length * L.length ≤ k * L.length := Nat.mul_le_mul_right _ (rootsN_le L k)
  exact Nat.le_trans h2 h3
theorem partsOf_lens (s : Int) (xss : List (List Int)) : lens (partsOf s xss).1 ≤ 1000 := by
  unfold partsOf
  split
  · rename_i hg
    have h1 := grB_iff hg
    obtain ⟨S, rfl⟩ : ∃ S : Nat, s = S := ⟨s.toNat, by omega⟩
    have hL := labelsI (nE_in hg)
    show lens ((partsN (labelsN S (nE xss)) S).map zs) ≤ 1000
    have := parts_lens (labelsN S (nE xss)) S
    rw [hL.len] at this
    have h8 : S ≤ 8 := by omega
    have : S * S ≤ 64 := Nat.mul_le_mul h8 h8
    omega
  · simp [lens]

/-- behind an append of a row to nil -/
theorem OwP.first {lo x hi : Nat} {W0 w w3 : World} {o : Obj} {g' c' : Nat} {rv : Value} {ys : List Int} (hlo : lo ≤ W0.heap.size) (hx : x < W0.heap.size) (hb : Below W0.heap.size W0 w) (hv : OwI W0.heap.size hi w rv ys)
    (hown : w3.ownsRow lo 25 1 (.slice (some ⟨g', 0, none⟩) 1 c') 1 [rv]) (hgr : (w.alloc o).grownBy w3 none) (hg : g' = (w.alloc o).heap.size) : OwP lo x w3 g' 1 c' [rv] [ys] := by
  have hch : Chg 0 0 w w3 := (((Below.refl w.heap.size w).alloc (Nat.le_refl _) o).chg 0 0).trans (Chg.grown hgr (fun k hk => by cases hk))
  have hs := hb.size
  have hw : (w.alloc o).heap.size = w.heap.size + 1 := by simp
  have hv3 : OwI lo w3.heap.size w3 rv ys := ((hv.up.chg hch (.inr (Nat.zero_le _))).mono hlo (by have := hch.size; omega))
  refine ⟨rfl, hown, ⟨rfl, fun j hj => ?_, fun i j hij hj => by simp at hj; omega⟩, fun j hj => ?_, by omega, fun j hj => ?_⟩
  · obtain rfl : j = 0 := by simp at hj; omega
    exact hv3
  · obtain rfl : j = 0 := by omega
    intro e
    have := (hv.blk g' e).2.2
    omega
  · obtain rfl : j = 0 := by omega
    intro e
    have := (hv.blk x e).1
    omega

/-- a list of rows under way, nil at first -/
def OwV (lo x : Nat) (w : World) (v : Value) (n : Nat) (rvs : List Value) (xss : List (List Int)) : Prop :=
  (v = .slice none 0 0 ∧ n = 0 ∧ rvs = [] ∧ xss = []) ∨ ∃ g c, v = .slice (some ⟨g, 0, none⟩) n c ∧ OwP lo x w g n c rvs xss
theorem OwV.out {lo x : Nat} {w : World} {v : Value} {n : Nat} {rvs : List Value} {xss : List (List Int)} (h : OwV lo x w v n rvs xss) : w.ownsRow lo 25 1 v n rvs := by
  rcases h with ⟨rfl, rfl, rfl, rfl⟩ | ⟨g, c, rfl, h⟩
  · exact World.ownsRow_nil _ _ _ _
  · exact h.out
theorem OwV.below {lo x : Nat} {w w' : World} {v : Value} {n : Nat} {rvs : List Value} {xss : List (List Int)} (h : OwV lo x w v n rvs xss) (hb : Below w.heap.size w w') : OwV lo x w' v n rvs xss := by
  rcases h with h | ⟨g, c, rfl, h⟩
  · exact .inl h
  · exact .inr ⟨g, c, rfl, h.below hb⟩
theorem OwV.shape {lo x : Nat} {w : World} {v : Value} {n : Nat} {rvs : List Value} {xss : List (List Int)} (h : OwV lo x w v n rvs xss) : ∃ a c, v = .slice a n c := by
  rcases h with ⟨rfl, rfl, _⟩ | ⟨g, c, rfl, h⟩
  · exact ⟨_, _, rfl⟩
  · exact ⟨_, _, rfl⟩
theorem OwV.len {lo x : Nat} {w : World} {v : Value} {n : Nat} {rvs : List Value} {xss : List (List Int)} (h : OwV lo x w v n rvs xss) : xss.length = n := by
  rcases h with ⟨_, rfl, _, rfl⟩ | ⟨g, c, rfl, h⟩
  · rfl
  · exact h.len
theorem OwV.owr {lo x : Nat} {w : World} {v : Value} {n : Nat} {rvs : List Value} {xss : List (List Int)} (h : OwV lo x w v n rvs xss) (hlo : lo ≤ w.heap.size) (hn : n ≤ 8796093022208) : OwR lo w.heap.size w v xss := by
  rcases h with ⟨rfl, rfl, rfl, rfl⟩ | ⟨g, c, rfl, h⟩
  · exact OwR.nil (World.ownsRow_nil _ _ _ _) (Nat.le_refl _)
  · exact h.owr hn
theorem OwV.snocF {lo x hi : Nat} {W0 w w3 : World} {o : Obj} {v : Value} {n g' c' : Nat} {rvs : List Value} {xss : List (List Int)} {rv : Value} {ys : List Int} (hlo : lo ≤ W0.heap.size)
    (h0 : OwV lo x W0 v n rvs xss) (hx : x < W0.heap.size) (hb : Below W0.heap.size W0 w) (hv : OwI W0.heap.size hi w rv ys)
    (hown : w3.ownsRow lo 25 1 (.slice (some ⟨g', 0, none⟩) (n + 1) c') (n + 1) (rvs ++ [rv])) (hgr : (w.alloc o).grownBy w3 v.ownBlock) (hlie : v.ownBlock = some g' ∨ g' = (w.alloc o).heap.size) :
    OwV lo x w3 (.slice (some ⟨g', 0, none⟩) (n + 1) c') (n + 1) (rvs ++ [rv]) (xss ++ [ys]) := by
  rcases h0 with ⟨rfl, rfl, rfl, rfl⟩ | ⟨g, c, rfl, h⟩
  · have hg : g' = (w.alloc o).heap.size := by
      rcases hlie with h | h
      · simp [Value.ownBlock] at h
      · exact h
    exact .inr ⟨g', c', rfl, OwP.first hlo hx hb hv hown hgr hg⟩
  · exact .inr ⟨g', c', rfl, h.snocF hx hb hv hown hgr hlie⟩
/-- .. what has turned: nothing below lo -/
theorem OwV.snocB {lo x : Nat} {W0 w w3 : World} {o : Obj} {v : Value} {n : Nat} {rvs : List Value} {xss : List (List Int)} (h0 : OwV lo x W0 v n rvs xss) (hlo : lo ≤ W0.heap.size) (hb : Below W0.heap.size W0 w) (hgr : (w.alloc o).grownBy w3 v.ownBlock) : Below lo W0 w3 := by
  rcases h0 with ⟨rfl, rfl, rfl, rfl⟩ | ⟨g, c, rfl, h⟩
  · have hch : Chg 0 0 w w3 := (((Below.refl w.heap.size w).alloc (Nat.le_refl _) o).chg 0 0).trans (Chg.grown hgr (fun k hk => by cases hk))
    have h2 : Chg lo W0.heap.size W0 w := hb.chg _ _
    exact (hb.mono hlo).trans ⟨hch.os, hch.tape, hch.output, hch.size, fun k hk => hch.block k (by have := hb.size; omega) (.inr (Nat.zero_le _))⟩
  · exact (snocC hb hgr).below h.lt.1 hlo

end Go.Proofs.YtnblhkhdilkbeaaDoor
