/- A list of rows under way, in a box x that none of them lies in. -/
import Derived.Test.YtgcidkcedfliiaaRowsMore
import Derived.Test.YtgcidkcedfliiaaBase2
set_option linter.unusedSimpArgs false
set_option linter.unusedVariables false
namespace Go.Proofs.Ytgcidkcedfliiaa
open Go.RowKit

structure OwP (lo x : Nat) (w : World) (g n c : Nat) (rvs : List Value) (xss : List (List Int)) : Prop where
  len : xss.length = n
  out : w.ownsRow lo 25 1 (.slice (some ⟨g, 0, none⟩) n c) n rvs
  rows : Rows1 lo w.heap.size w rvs xss
  dj : ∀ j, j < n → (rvs.getD j (.slice none 0 0)).ownBlock ≠ some g
  exg : g ≠ x
  exr : ∀ j, j < n → (rvs.getD j (.slice none 0 0)).ownBlock ≠ some x

theorem OwI.up {lo hi : Nat} {w : World} {v : Value} {xs : List Int} (h : OwI lo hi w v xs) : OwI lo w.heap.size w v xs := ⟨h.1, h.2.1, h.2.2.1, fun k hk => (h.2.2.1.lt k hk).2⟩
theorem OwI.raise {lo hi lo' : Nat} {w : World} {v : Value} {xs : List Int} (h : OwI lo hi w v xs) (hr : ∀ k, v.ownBlock = some k → lo' ≤ k) : OwI lo' hi w v xs := by
  obtain ⟨a, b, ⟨c, d⟩, e⟩ := h
  refine ⟨a, b, ⟨c, ?_⟩, e⟩
  rcases d with d | ⟨g, cap, cur, hv, hg, r⟩
  · exact .inl d
  · exact .inr ⟨g, cap, cur, hv, hr g (by rw [hv]; rfl), r⟩

theorem OwP.lt {lo x : Nat} {w : World} {g n c : Nat} {rvs : List Value} {xss : List (List Int)} (h : OwP lo x w g n c rvs xss) : lo ≤ g ∧ g < w.heap.size := h.out.lt g rfl
theorem OwP.chg {lo x lo' hi' : Nat} {w w' : World} {g n c : Nat} {rvs : List Value} {xss : List (List Int)} (h : OwP lo x w g n c rvs xss) (hb : Chg lo' hi' w w') (hg : g < lo' ∨ hi' ≤ g) (hr : ∀ j, j < n → ∀ k, (rvs.getD j (.slice none 0 0)).ownBlock = some k → k < lo' ∨ hi' ≤ k) : OwP lo x w' g n c rvs xss := by
  refine ⟨h.len, ownsRow_chg h.out hb (fun k hk => ?_), ⟨h.rows.len, fun j hj => ?_, h.rows.dj⟩, h.dj, h.exg, h.exr⟩
  · have : g = k := by simpa [Value.ownBlock] using hk
    omega
  · exact ((h.rows.own j hj).chg' hb (hr j (by rw [← h.len]; exact hj))).mono (Nat.le_refl _) hb.size
theorem OwP.below {lo x : Nat} {w w' : World} {g n c : Nat} {rvs : List Value} {xss : List (List Int)} (h : OwP lo x w g n c rvs xss) (hb : Below w.heap.size w w') : OwP lo x w' g n c rvs xss :=
  h.chg (hb.chg 0 0) (.inr (Nat.zero_le _)) (fun _ _ _ _ => .inr (Nat.zero_le _))
theorem OwP.qt {lo x : Nat} {w w' : World} {g n c : Nat} {rvs : List Value} {xss : List (List Int)} (h : OwP lo x w g n c rvs xss) (hq : Qt w w') : OwP lo x w' g n c rvs xss := h.below hq.below
/-- the box itself turns -/
theorem OwP.box {lo x : Nat} {w w' : World} {g n c : Nat} {rvs : List Value} {xss : List (List Int)} (h : OwP lo x w g n c rvs xss) (hb : Chg x (x+1) w w') : OwP lo x w' g n c rvs xss :=
  h.chg hb (by have := h.exg; omega) (fun j hj k hk => by have := h.exr j hj; rw [hk] at this; have : k ≠ x := fun e => this (by rw [e]); omega)
theorem OwP.owr {lo x : Nat} {w : World} {g n c : Nat} {rvs : List Value} {xss : List (List Int)} (h : OwP lo x w g n c rvs xss) (hn : n ≤ 8796093022208) : OwR lo w.heap.size w (.slice (some ⟨g, 0, none⟩) n c) xss := by
  have hl := h.len
  refine ⟨by omega, fun k hk => (h.out.lt k hk).2, rvs, by rw [hl]; exact h.out, h.rows, fun j hj k hk hk2 => ?_⟩
  have : g = k := by simpa [Value.ownBlock] using hk
  subst this
  exact h.dj j (by omega) hk2
theorem OwP.owr' {lo x : Nat} {w : World} {g n c : Nat} {rvs : List Value} {xss : List (List Int)} (h : OwP lo x w g n c rvs xss) (hn : n ≤ 8796093022208) : OwR lo w.heap.size w (.slice (some ⟨g, 0, none⟩) xss.length c) xss := by
  have := h.owr hn
  rw [h.len]; exact this
theorem OwP.row {lo x : Nat} {w : World} {g n c : Nat} {rvs : List Value} {xss : List (List Int)} (h : OwP lo x w g n c rvs xss) {k : Nat} (hk : k < n) : w.cell? ⟨g, k, none⟩ = some (rvs.getD k (.slice none 0 0)) ∧ OwI lo w.heap.size w (rvs.getD k (.slice none 0 0)) (xss.getD k []) := by
  have hl := h.len
  have hl2 := h.rows.len
  refine ⟨?_, h.rows.own k (by omega)⟩
  rw [h.out.cellAt k (by omega), List.getElem?_eq_getElem (by omega)]
  simp [List.getD, List.getElem?_eq_getElem (show k < rvs.length by omega)]
theorem OwP.ofR {lo hi x : Nat} {w : World} {v : Value} {xss : List (List Int)} (h : OwR lo hi w v xss) (h0 : 0 < xss.length) (hx : hi ≤ x) : ∃ g c rvs, v = .slice (some ⟨g, 0, none⟩) xss.length c ∧ OwP lo x w g xss.length c rvs xss := by
  obtain ⟨h1, hh, rvs, h3, hr, hd⟩ := h
  obtain ⟨g, c, rfl, hg, hgw⟩ := h3.form h0
  refine ⟨g, c, rvs, rfl, rfl, h3, ⟨hr.len, fun j hj => (hr.own j hj).up, hr.dj⟩, fun j hj => hd j hj g rfl, ?_, fun j hj e => ?_⟩
  · have := hh g rfl; omega
  · have := (hr.own j hj).blk x e; omega

/-- behind an append of a row, made anew -/
theorem OwP.snoc {lo x : Nat} {w w3 : World} {o : Obj} {g n c g' c' : Nat} {rvs : List Value} {xss : List (List Int)} {rv : Value} {ys : List Int}
    (h : OwP lo x w g n c rvs xss) (hv : OwI lo w.heap.size w rv ys) (hf : ∀ j, j < n → Dj (rvs.getD j (.slice none 0 0)) rv) (hfg : rv.ownBlock ≠ some g) (hfx : rv.ownBlock ≠ some x) (hx : x < w.heap.size)
    (hown : w3.ownsRow lo 25 1 (.slice (some ⟨g', 0, none⟩) (n + 1) c') (n + 1) (rvs ++ [rv])) (hgr : (w.alloc o).grownBy w3 (some g)) (hlie : some g = some g' ∨ g' = (w.alloc o).heap.size) :
    OwP lo x w3 g' (n + 1) c' (rvs ++ [rv]) (xss ++ [ys]) := by
  have hl := h.len
  have hlen := h.rows.len
  have hsz := hgr.size
  have hsz2 : w.heap.size + 1 ≤ w3.heap.size := by simpa using hsz
  have hch : Chg g (g + 1) w w3 := (((Below.refl w.heap.size w).alloc (Nat.le_refl _) o).chg g (g+1)).trans (Chg.grown hgr (fun k hk => by
    have : g = k := by simpa using hk
    omega))
  have hlt := h.lt
  have hmove : ∀ {u : Value} {us : List Int}, OwI lo w.heap.size w u us → u.ownBlock ≠ some g → OwI lo w3.heap.size w3 u us := fun hu hdu =>
    (hu.chg' hch (fun k hk => by have : k ≠ g := fun e => hdu (by rw [hk, e]); omega)).mono (Nat.le_refl _) (by omega)
  have hbig : ∀ {u : Value} {us : List Int}, OwI lo w.heap.size w u us → u.ownBlock ≠ some g → u.ownBlock ≠ some g' := by
    intro u us hu hdu e
    rcases hlie with e2 | e2
    · simp at e2; subst e2; exact hdu e
    · have := (hu.blk g' e).2.2; simp at e2; omega
  have hget : ∀ j, j < n + 1 → (j < n ∧ (rvs ++ [rv]).getD j (.slice none 0 0) = rvs.getD j (.slice none 0 0)) ∨ (j = n ∧ (rvs ++ [rv]).getD j (.slice none 0 0) = rv) := by
    intro j hj
    by_cases e : j < n
    · left; refine ⟨e, ?_⟩; simp only [List.getD]; rw [List.getElem?_append_left (by omega)]
    · right
      obtain rfl : j = n := by omega
      refine ⟨rfl, ?_⟩
      simp only [List.getD]; rw [List.getElem?_append_right (by omega)]
      have : j - rvs.length = 0 := by omega
      rw [this]; rfl
  refine ⟨by rw [List.length_append, hl]; rfl, hown, ?_, fun j hj => ?_, ?_, fun j hj => ?_⟩
  · refine Rows1.snoc ⟨hlen, fun j hj => hmove (h.rows.own j hj) (h.dj j (by omega)), h.rows.dj⟩ (hmove hv hfg) (fun j hj => hf j (by omega))
  · rcases hget j hj with ⟨e, e2⟩ | ⟨e, e2⟩
    · rw [e2]; exact hbig (h.rows.own j (by omega)) (h.dj j e)
    · rw [e2]; exact hbig hv hfg
  · rcases hlie with e2 | e2
    · simp at e2; rw [← e2]; exact h.exg
    · simp at e2; omega
  · rcases hget j hj with ⟨e, e2⟩ | ⟨e, e2⟩
    · rw [e2]; exact h.exr j e
    · rw [e2]; exact hfx

/-- a number of a row turns -/
theorem OwP.store {lo x : Nat} {w : World} {g n c : Nat} {rvs : List Value} {xss : List (List Int)} (h : OwP lo x w g n c rvs xss) {k j : Nat} (hk : k < n) (hj : j < (xss.getD k []).length) :
    ∃ b cb, rvs.getD k (.slice none 0 0) = .slice (some ⟨b, 0, none⟩) (xss.getD k []).length cb ∧ w.cell? ⟨b, j, none⟩ = some (.int .i64 ((xss.getD k []).getD j 0)) ∧ w.frozen? ⟨b, j, none⟩ = false ∧ lo ≤ b ∧ b < w.heap.size ∧ b ≠ x ∧ b ≠ g ∧ I64 ((xss.getD k []).getD j 0) ∧
      ∀ y, I64 y → OwP lo x (w.setCell ⟨b, j, none⟩ (.int .i64 y)) g n c rvs (xss.set k ((xss.getD k []).set j y)) := by
  have hl := h.len
  have hlen := h.rows.len
  have ho := h.rows.own k (by omega)
  have hall : ∀ (ys : List Int) (h : j < ys.length), ys.getD j 0 = ys[j] := fun ys h => by simp [List.getD, List.getElem?_eq_getElem h]
  have hgetI : (xss.getD k []).getD j 0 = (xss.getD k [])[j] := hall _ hj
  obtain ⟨o1, o2, o3, o4⟩ := ho
  obtain ⟨b, cb, hrv, hb, hbw⟩ := o3.form (by omega)
  have hbk : (rvs.getD k (.slice none 0 0)).ownBlock = some b := by rw [hrv]; rfl
  rw [hrv] at o3
  refine ⟨b, cb, hrv, ?_, o3.frozenAt j, hb, hbw, fun e => h.exr k hk (by rw [hbk, e]), fun e => h.dj k hk (by rw [hbk, e]), ?_, fun y hy => ?_⟩
  · rw [o3.cellAt j (by omega), List.getElem?_map, List.getElem?_eq_getElem hj, hgetI]; rfl
  · rw [hgetI]; exact o2 _ (List.getElem_mem hj)
  · have hch : Chg b (b+1) w (w.setCell ⟨b, j, none⟩ (.int .i64 y)) := (Chg.refl b (b+1) w).setCell (p := ⟨b, j, none⟩) ⟨Nat.le_refl _, Nat.lt_succ_self _⟩ _
    have hst := (o3.stored j (.int .i64 y)).1
    rw [← List.map_set] at hst
    have hsz : (w.setCell ⟨b, j, none⟩ (.int .i64 y)).heap.size = w.heap.size := by simp [World.setCell]
    refine ⟨by rw [List.length_set]; exact hl, ownsRow_chg h.out hch (fun q hq => ?_), ?_, h.dj, h.exg, h.exr⟩
    · have : g = q := by simpa [Value.ownBlock] using hq
      have : b ≠ g := fun e => h.dj k hk (by rw [hbk, e])
      omega
    · rw [hsz]
      refine Rows1.setRow h.rows (by omega) ?_ hch hbk
      rw [hrv]
      refine ⟨by rw [List.length_set]; exact o1, fun z hz => ?_, by rw [List.length_set]; exact hst, fun q hq => o4 q (by rw [hrv]; exact hq)⟩
      rcases List.mem_or_eq_of_mem_set hz with hz | rfl
      · exact o2 z hz
      · exact hy

end Go.Proofs.Ytgcidkcedfliiaa
