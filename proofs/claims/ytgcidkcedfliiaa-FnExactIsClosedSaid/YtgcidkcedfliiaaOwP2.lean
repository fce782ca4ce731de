/- A list of rows under way: fresh rows are appended, or laid into their places. -/
import Derived.Test.YtgcidkcedfliiaaOwP
set_option linter.unusedSimpArgs false
set_option linter.unusedVariables false
namespace Go.Proofs.Ytgcidkcedfliiaa
open Go.RowKit

theorem OwP.fresh {lo x hi : Nat} {W0 w : World} {g n c : Nat} {rvs : List Value} {xss : List (List Int)} (h0 : OwP lo x W0 g n c rvs xss) (hx : x < W0.heap.size) {rv : Value} {ys : List Int} (hv : OwI W0.heap.size hi w rv ys) :
    (∀ j, j < n → Dj (rvs.getD j (.slice none 0 0)) rv) ∧ rv.ownBlock ≠ some g ∧ rv.ownBlock ≠ some x := by
  have hl := h0.len
  refine ⟨fun j hj q hq hq2 => ?_, fun e => ?_, fun e => ?_⟩
  · have h1 := ((h0.rows.own j (by omega)).blk q hq).2.2
    have h2 := (hv.blk q hq2).1
    omega
  · have h1 := h0.lt.2
    have h2 := (hv.blk g e).1
    omega
  · have h2 := (hv.blk x e).1
    omega

theorem OwP.snocF {lo x hi : Nat} {W0 w w3 : World} {o : Obj} {g n c g' c' : Nat} {rvs : List Value} {xss : List (List Int)} {rv : Value} {ys : List Int}
    (h0 : OwP lo x W0 g n c rvs xss) (hx : x < W0.heap.size) (hb : Below W0.heap.size W0 w) (hv : OwI W0.heap.size hi w rv ys)
    (hown : w3.ownsRow lo 25 1 (.slice (some ⟨g', 0, none⟩) (n + 1) c') (n + 1) (rvs ++ [rv])) (hgr : (w.alloc o).grownBy w3 (some g)) (hlie : some g = some g' ∨ g' = (w.alloc o).heap.size) :
    OwP lo x w3 g' (n + 1) c' (rvs ++ [rv]) (xss ++ [ys]) := by
  obtain ⟨f1, f2, f3⟩ := h0.fresh hx hv
  have hs := hb.size
  have hlt := h0.lt
  exact (h0.below hb).snoc (hv.up.mono (by omega) (Nat.le_refl _)) f1 f2 f3 (by omega) hown hgr hlie

theorem snocC {W0 w w3 : World} {o : Obj} {g : Nat} (hb : Below W0.heap.size W0 w) (hgr : (w.alloc o).grownBy w3 (some g)) : Chg g (g+1) W0 w3 :=
  (hb.chg g (g+1)).trans ((((Below.refl w.heap.size w).alloc (Nat.le_refl _) o).chg g (g+1)).trans (Chg.grown hgr (fun k hk => by
    have : g = k := by simpa using hk
    omega)))

theorem getD_setV_self {rvs : List Value} {k : Nat} {y d : Value} (h : k < rvs.length) : (rvs.set k y).getD k d = y := by simp [List.getD, h]
theorem getD_setV_ne {rvs : List Value} {k i : Nat} {y d : Value} (h : i ≠ k) : (rvs.set k y).getD i d = rvs.getD i d := by simp [List.getD, List.getElem?_set, Ne.symm h]

theorem OwP.put {lo x hi : Nat} {W0 w : World} {g n c : Nat} {rvs : List Value} {xss : List (List Int)} (h0 : OwP lo x W0 g n c rvs xss) (hx : x < W0.heap.size) (hb : Below W0.heap.size W0 w) {k : Nat} (hk : k < n) {rv : Value} {ys : List Int} (hv : OwI W0.heap.size hi w rv ys) :
    OwP lo x (w.setCell ⟨g, k, none⟩ rv) g n c (rvs.set k rv) (xss.set k ys) := by
  obtain ⟨f1, f2, f3⟩ := h0.fresh hx hv
  have hs := hb.size
  have hlt := h0.lt
  have h := h0.below hb
  have hl := h.len
  have hlen := h.rows.len
  have hch : Chg g (g+1) w (w.setCell ⟨g, k, none⟩ rv) := (Chg.refl g (g+1) w).setCell (p := ⟨g, k, none⟩) ⟨Nat.le_refl _, Nat.lt_succ_self _⟩ _
  have hsz : (w.setCell ⟨g, k, none⟩ rv).heap.size = w.heap.size := by simp [World.setCell]
  have hmove : ∀ {u : Value} {us : List Int}, OwI lo w.heap.size w u us → u.ownBlock ≠ some g → OwI lo w.heap.size (w.setCell ⟨g, k, none⟩ rv) u us := fun hu hdu =>
    hu.chg' hch (fun k hk => by have : k ≠ g := fun e => hdu (by rw [hk, e]); omega)
  have hget : ∀ j, (j = k ∧ (rvs.set k rv).getD j (.slice none 0 0) = rv) ∨ (j ≠ k ∧ (rvs.set k rv).getD j (.slice none 0 0) = rvs.getD j (.slice none 0 0)) := by
    intro j
    by_cases e : j = k
    · subst e; exact .inl ⟨rfl, getD_setV_self (by omega)⟩
    · exact .inr ⟨e, getD_setV_ne e⟩
  refine ⟨by rw [List.length_set]; exact hl, (h.out.stored k rv).1, ⟨by rw [List.length_set, List.length_set]; exact hlen, fun j hj => ?_, fun i j hij hj => ?_⟩, fun j hj => ?_, h.exg, fun j hj => ?_⟩
  · rw [hsz]
    rw [List.length_set] at hj
    rcases hget j with ⟨e, e2⟩ | ⟨e, e2⟩
    · subst e
      rw [e2, getD_set_self hj]
      exact hmove (hv.up.mono (by omega) (Nat.le_refl _)) f2
    · rw [e2, getD_set_ne e]
      exact hmove (h.rows.own j hj) (h.dj j (by omega))
  · rw [List.length_set] at hj
    rcases hget i with ⟨e, e2⟩ | ⟨e, e2⟩ <;> rcases hget j with ⟨e', e2'⟩ | ⟨e', e2'⟩
    · omega
    · rw [e2, e2']; exact fun q hq hq2 => f1 j (by omega) q hq2 hq
    · rw [e2, e2']; exact f1 i (by omega)
    · rw [e2, e2']; exact h.rows.dj i j hij hj
  · rcases hget j with ⟨e, e2⟩ | ⟨e, e2⟩
    · rw [e2]; exact f2
    · rw [e2]; exact h.dj j hj
  · rcases hget j with ⟨e, e2⟩ | ⟨e, e2⟩
    · rw [e2]; exact f3
    · rw [e2]; exact h.exr j hj

theorem OwI.nil' (lo hi : Nat) (w : World) : OwI lo hi w (.slice none 0 0) [] :=
  ⟨by simp, by simp, World.ownsRow_nil _ _ _ _, fun k hk => by simp [Value.ownBlock] at hk⟩
theorem getD_rep {n j : Nat} : (List.replicate n (Value.slice none 0 0)).getD j (.slice none 0 0) = .slice none 0 0 := by
  by_cases h : j < n <;> simp [List.getD, h]
theorem getD_repR {n j : Nat} : (List.replicate n ([] : List Int)).getD j [] = [] := by
  by_cases h : j < n <;> simp [List.getD, h]

/-- a list of nil rows, made anew -/
theorem OwP.made {lo x : Nat} {w : World} {g n c : Nat} (h : w.ownsRow lo 25 1 (.slice (some ⟨g, 0, none⟩) n c) n (madeCells #[Value.slice none 0 0] n).toList) (hx : g ≠ x) : OwP lo x w g n c (List.replicate n (.slice none 0 0)) (List.replicate n []) := by
  rw [toList_madeCells_one] at h
  refine ⟨by simp, h, ⟨by simp, fun j hj => ?_, fun i j hij hj => ?_⟩, fun j hj => ?_, hx, fun j hj => ?_⟩
  · rw [getD_rep, getD_repR]; exact OwI.nil' _ _ _
  · rw [getD_rep]; intro q hq; simp [Value.ownBlock] at hq
  · rw [getD_rep]; simp [Value.ownBlock]
  · rw [getD_rep]; simp [Value.ownBlock]
/-- an empty list, made anew -/
theorem OwP.empty {lo x : Nat} {w : World} {g c : Nat} (h : w.ownsRow lo 25 1 (.slice (some ⟨g, 0, none⟩) 0 c) 0 []) (hx : g ≠ x) : OwP lo x w g 0 c [] [] :=
  ⟨rfl, h, ⟨rfl, fun j hj => by simp at hj, fun i j hij hj => by simp at hj⟩, fun j hj => by omega, hx, fun j hj => by omega⟩

/-- a row of two numbers, as it is written out -/
theorem OwI.two {lo : Nat} {w : World} {x y : Int} (hx : I64 x) (hy : I64 y) (hlo : lo ≤ w.heap.size) : OwI lo (w.heap.size + 1) (w.alloc (.cells #[.int .i64 x, .int .i64 y] 2)) (.slice (some ⟨w.heap.size, 0, none⟩) 2 2) [x, y] := by
  have h := World.ownsRow_lit (base := lo) (e := 2) (size := 1) w #[.int .i64 x, .int .i64 y] 2 hlo (by unfold maxLen; omega) rfl
  refine ⟨by simp, fun z hz => ?_, h, fun k hk => ?_⟩
  · simp at hz
    rcases hz with rfl | rfl
    · exact hx
    · exact hy
  · simp [Value.ownBlock] at hk; omega

def filled (rows : List (List Int)) (k n : Nat) : List (List Int) := rows.take k ++ List.replicate (n - k) []
theorem filled_zero (rows : List (List Int)) (n : Nat) : filled rows 0 n = List.replicate n [] := by simp [filled]
theorem filled_all {rows : List (List Int)} {n : Nat} (h : rows.length = n) : filled rows n n = rows := by simp [filled, ← h]
theorem filled_step {rows : List (List Int)} {k n : Nat} (h : rows.length = n) (hk : k < n) : (filled rows k n).set k (rows.getD k []) = filled rows (k+1) n := by
  have e : n - k = (n - (k + 1)) + 1 := by omega
  have hl : (rows.take k).length = k := by rw [List.length_take]; omega
  unfold filled
  have e2 : rows.getD k [] = rows[k] := by simp [List.getD, List.getElem?_eq_getElem (show k < rows.length by omega)]
  rw [e, List.replicate_succ, List.set_append, if_neg (by omega), hl, Nat.sub_self, List.set_cons_zero, List.take_add_one, List.getElem?_eq_getElem (by omega), e2, List.append_assoc]
  rfl

end Go.Proofs.Ytgcidkcedfliiaa
