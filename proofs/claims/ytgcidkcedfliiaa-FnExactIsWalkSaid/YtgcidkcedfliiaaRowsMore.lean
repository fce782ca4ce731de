/- Lists of lists of numbers that the call owns: a number of a row is stored; a row is appended; the marks of graphs are still there. -/
import Derived.Test.YtgcidkcedfliiaaGraph
import Derived.Test.YtgcidkcedfliiaaHeldR
import Derived.Deep.AppendLies
set_option linter.unusedSimpArgs false
set_option linter.unusedVariables false
namespace Go.Proofs.Ytgcidkcedfliiaa
open Go.RowKit

theorem getD_set_self {xss : List (List Int)} {k : Nat} {y : List Int} (h : k < xss.length) : (xss.set k y).getD k [] = y := by simp [List.getD, h]
theorem getD_set_ne {xss : List (List Int)} {k i : Nat} {y : List Int} (h : i ≠ k) : (xss.set k y).getD i [] = xss.getD i [] := by simp [List.getD, List.getElem?_set, Ne.symm h]

theorem RdR.at {lo hi : Nat} {w : World} {a : Option Addr} {n c : Nat} {xss : List (List Int)} (h : RdR lo hi w (.slice a n c) xss) (hn : xss.length = n) : ∀ k, k < n → ∃ b off rv, a = some ⟨b, off, none⟩ ∧ w.cell? ⟨b, off + k, none⟩ = some rv ∧ RdI lo hi w rv (xss.getD k []) := by
  intro k hk
  obtain ⟨_, ⟨a', c', rfl, _⟩ | ⟨b, off, c', hv, _, _, _, hc⟩⟩ := h
  · simp at hn; omega
  · simp only [Value.slice.injEq] at hv
    obtain ⟨rfl, _, _⟩ := hv
    obtain ⟨rv, h1, h2⟩ := hc k (by omega)
    exact ⟨b, off, rv, rfl, h1, h2⟩

theorem Rows1.setRow {lo hi b k : Nat} {w w' : World} {rvs : List Value} {xss : List (List Int)} {y : List Int} (h : Rows1 lo hi w rvs xss) (hk : k < xss.length)
    (ho : OwI lo hi w' (rvs.getD k (.slice none 0 0)) y) (hch : Chg b (b+1) w w') (hb : (rvs.getD k (.slice none 0 0)).ownBlock = some b) : Rows1 lo hi w' rvs (xss.set k y) := by
  refine ⟨by rw [List.length_set]; exact h.len, fun i hi => ?_, fun i i' hii hi => h.dj i i' hii (by simpa using hi)⟩
  rw [List.length_set] at hi
  by_cases e : i = k
  · subst e; rw [getD_set_self hk]; exact ho
  · rw [getD_set_ne e]
    refine (h.own i hi).chg' hch (fun q hq => ?_)
    have hne : q ≠ b := by
      intro e4; subst e4
      rcases Nat.lt_or_gt_of_ne e with e5 | e5
      · exact h.dj i k e5 hk q hq hb
      · exact h.dj k i e5 hi q hb hq
    omega

theorem OwR.store {lo hi : Nat} {w : World} {v : Value} {xss : List (List Int)} (h : OwR lo hi w v xss) {k j : Nat} (hk : k < xss.length) (hj : j < (xss.getD k []).length) :
    ∃ g c b cb, v = .slice (some ⟨g, 0, none⟩) xss.length c ∧ w.cell? ⟨g, k, none⟩ = some (.slice (some ⟨b, 0, none⟩) (xss.getD k []).length cb) ∧ w.cell? ⟨b, j, none⟩ = some (.int .i64 ((xss.getD k []).getD j 0)) ∧ w.frozen? ⟨b, j, none⟩ = false ∧
      lo ≤ b ∧ b < hi ∧ b < w.heap.size ∧ lo ≤ g ∧ g < hi ∧ g < w.heap.size ∧ g ≠ b ∧ I64 ((xss.getD k []).getD j 0) ∧ ∀ x, I64 x → OwR lo hi (w.setCell ⟨b, j, none⟩ (.int .i64 x)) v (xss.set k ((xss.getD k []).set j x)) := by
  obtain ⟨h1, hh, rvs, h3, hr, hd⟩ := h
  obtain ⟨g, c, rfl, hg, hgw⟩ := h3.form (by omega)
  have ho := hr.own k hk
  have hdk := hd k hk
  have hl : k < rvs.length := by rw [hr.len]; exact hk
  have hcell := h3.cellAt k (by omega)
  rw [List.getElem?_eq_getElem hl] at hcell
  have e1 : rvs.getD k (.slice none 0 0) = rvs[k] := by simp [List.getD, List.getElem?_eq_getElem hl]
  rw [← e1] at hcell
  obtain ⟨o1, o2, o3, o4⟩ := ho
  obtain ⟨b, cb, hrv, hb, hbw⟩ := o3.form (by omega)
  have hbk : (rvs.getD k (.slice none 0 0)).ownBlock = some b := by rw [hrv]; rfl
  have hne : g ≠ b := fun e => hdk g rfl (by rw [hbk, e])
  have hall : ∀ (ys : List Int) (h : j < ys.length), ys.getD j 0 = ys[j] := fun ys h => by simp [List.getD, List.getElem?_eq_getElem h]
  have hgetI : (xss.getD k []).getD j 0 = (xss.getD k [])[j] := hall _ hj
  rw [hrv] at o3
  refine ⟨g, c, b, cb, rfl, by rw [hcell, hrv], ?_, o3.frozenAt j, hb, o4 b hbk, hbw, hg, hh g rfl, hgw, hne, ?_, fun x hx => ?_⟩
  · rw [o3.cellAt j (by omega), List.getElem?_map, List.getElem?_eq_getElem hj, hgetI]; rfl
  · rw [hgetI]; exact o2 _ (List.getElem_mem hj)
  · have hch : Chg b (b+1) w (w.setCell ⟨b, j, none⟩ (.int .i64 x)) := (Chg.refl b (b+1) w).setCell (p := ⟨b, j, none⟩) ⟨Nat.le_refl _, Nat.lt_succ_self _⟩ _
    have hst := (o3.stored j (.int .i64 x)).1
    rw [← List.map_set] at hst
    refine ⟨by rw [List.length_set]; exact h1, hh, rvs, ?_, Rows1.setRow hr hk ?_ hch hbk, fun i hi => hd i (by simpa using hi)⟩
    · rw [List.length_set]
      exact ownsRow_chg h3 hch (fun q hq => by simp [Value.ownBlock] at hq; omega)
    · rw [hrv]
      refine ⟨by rw [List.length_set]; exact o1, fun y hy => ?_, by rw [List.length_set]; exact hst, fun q hq => o4 q (by rw [hrv]; exact hq)⟩
      rcases List.mem_or_eq_of_mem_set hy with hy | rfl
      · exact o2 y hy
      · exact hx

/-- behind an append of a row onto the call's own list -/
theorem OwR.snoc {lo hi : Nat} {w w3 : World} {o : Obj} {v : Value} {g c : Nat} {rvs : List Value} {xss : List (List Int)} {rv : Value} {ys : List Int}
    (h3 : w.ownsRow lo 25 1 v xss.length rvs) (hr : Rows1 lo hi w rvs xss) (hd : ∀ j, j < xss.length → Dj v (rvs.getD j (.slice none 0 0))) (hv : OwI lo hi w rv ys) (hf : ∀ j, j < xss.length → Dj (rvs.getD j (.slice none 0 0)) rv) (hfv : Dj v rv)
    (hown : w3.ownsRow lo 25 1 (.slice (some ⟨g, 0, none⟩) (xss.length + 1) c) (xss.length + 1) (rvs ++ [rv])) (hgr : (w.alloc o).grownBy w3 v.ownBlock) (hlie : v.ownBlock = some g ∨ g = (w.alloc o).heap.size) (hl : xss.length + 1 ≤ 8796093022208) :
    OwR lo w3.heap.size w3 (.slice (some ⟨g, 0, none⟩) (xss.length + 1) c) (xss ++ [ys]) := by
  have hsz := hgr.size
  have hsz2 : w.heap.size + 1 ≤ w3.heap.size := by simpa using hsz
  have hkeep : ∀ q, q < w.heap.size → some q ≠ v.ownBlock → w3.heap[q]? = w.heap[q]? := fun q hq hne => by
    rw [hgr.block q (by simp; omega) hne]
    exact Below.heap_alloc _ _ _ hq
  have hmove : ∀ {u : Value} {us : List Int}, OwI lo hi w u us → Dj v u → OwI lo w3.heap.size w3 u us := by
    intro u us hu hdu
    obtain ⟨a1, a2, ⟨a3, a4⟩, a5⟩ := hu
    refine ⟨a1, a2, ⟨a3, ?_⟩, fun q hq => ?_⟩
    · rcases a4 with a4 | ⟨q, cap, cur, hq, hqb, hqh, rest⟩
      · exact .inl a4
      · refine .inr ⟨q, cap, cur, hq, hqb, ?_, rest⟩
        rw [hkeep q (Array.getElem?_eq_some_iff.1 hqh).1 (fun e => hdu q e.symm (by rw [hq]; rfl))]
        exact hqh
    · rcases a4 with a4 | ⟨q', cap, cur, hq', hqb, hqh, rest⟩
      · rw [a4.1] at hq; simp [Value.ownBlock] at hq
      · rw [hq'] at hq
        simp [Value.ownBlock] at hq
        have := (Array.getElem?_eq_some_iff.1 hqh).1
        omega
  have hblk : ∀ {u : Value} {us : List Int}, OwI lo hi w u us → ∀ q, u.ownBlock = some q → q < w.heap.size := fun hu q hq => (hu.2.2.1.lt q hq).2
  have hdg : ∀ {u : Value} {us : List Int}, OwI lo hi w u us → Dj v u → Dj (.slice (some ⟨g, 0, none⟩) (xss.length + 1) c) u := by
    intro u us hu hdu q hq hq2
    have : g = q := by simpa [Value.ownBlock] using hq
    subst this
    rcases hlie with e | e
    · exact hdu g e hq2
    · have := hblk hu g hq2; simp at e; omega
  have hrows : Rows1 lo w3.heap.size w3 (rvs ++ [rv]) (xss ++ [ys]) := by
    refine Rows1.snoc ⟨hr.len, fun j hj => hmove (hr.own j hj) (hd j hj), hr.dj⟩ (hmove hv hfv) hf
  refine ⟨by rw [List.length_append]; exact hl, fun q hq => (hown.lt q hq).2, rvs ++ [rv], by rw [List.length_append]; exact hown, hrows, fun j hj => ?_⟩
  rw [List.length_append] at hj
  have hlen := hr.len
  by_cases e : j < xss.length
  · have e1 : (rvs ++ [rv]).getD j (.slice none 0 0) = rvs.getD j (.slice none 0 0) := by simp only [List.getD]; rw [List.getElem?_append_left (by omega)]
    rw [e1]; exact hdg (hr.own j e) (hd j e)
  · obtain rfl : j = xss.length := by simp at hj; omega
    have e1 : (rvs ++ [rv]).getD xss.length (.slice none 0 0) = rv := by simp only [List.getD]; rw [List.getElem?_append_right (by omega), hlen]; simp
    rw [e1]; exact hdg hv hfv

end Go.Proofs.Ytgcidkcedfliiaa
