/- Lists of lists of numbers that the call owns: each row in a block of its own. Copies, marks. -/
import Derived.Test.YtgcidkcedfliiaaSlR2
set_option linter.unusedSimpArgs false
set_option linter.unusedVariables false
namespace Go.Proofs.Ytgcidkcedfliiaa
open Go.RowKit

/-- two slices lie in two blocks -/
def Dj (v v' : Value) : Prop := ∀ k, v.ownBlock = some k → v'.ownBlock ≠ some k

theorem OwI.chg' {lo hi lo' hi' : Nat} {w w' : World} {v : Value} {xs : List Int} (h : OwI lo hi w v xs) (hb : Chg lo' hi' w w') (hs : ∀ k, v.ownBlock = some k → k < lo' ∨ hi' ≤ k) : OwI lo hi w' v xs :=
  ⟨h.1, h.2.1, ownsRow_chg h.2.2.1 hb hs, h.2.2.2⟩
theorem OwI.mono {lo hi lo' hi' : Nat} {w : World} {v : Value} {xs : List Int} (h : OwI lo hi w v xs) (h1 : lo' ≤ lo) (h2 : hi ≤ hi') : OwI lo' hi' w v xs := by
  obtain ⟨a, b, ⟨c, d⟩, e⟩ := h
  refine ⟨a, b, ⟨c, ?_⟩, fun k hk => by have := e k hk; omega⟩
  rcases d with d | ⟨g, cap, cur, hv, hg, r⟩
  · exact .inl d
  · exact .inr ⟨g, cap, cur, hv, by omega, r⟩
theorem OwI.narrow {lo hi k : Nat} {w : World} {v : Value} {xs : List Int} (h : OwI lo hi w v xs) (hk : v.ownBlock = some k ∨ v.ownBlock = none) : OwI k (k+1) w v xs := by
  obtain ⟨a, b, ⟨c, d⟩, e⟩ := h
  rcases d with d | ⟨g, cap, cur, rfl, hg, r⟩
  · exact ⟨a, b, ⟨c, .inl d⟩, fun j hj => by rw [d.1] at hj; simp [Value.ownBlock] at hj⟩
  · have : g = k := by simpa [Value.ownBlock] using hk
    subst this
    exact ⟨a, b, ⟨c, .inr ⟨g, cap, cur, rfl, Nat.le_refl _, r⟩⟩, fun j hj => by simp [Value.ownBlock] at hj; omega⟩
theorem OwI.blk {lo hi : Nat} {w : World} {v : Value} {xs : List Int} (h : OwI lo hi w v xs) (k : Nat) (hk : v.ownBlock = some k) : lo ≤ k ∧ k < hi ∧ k < w.heap.size :=
  ⟨(h.2.2.1.lt k hk).1, h.2.2.2 k hk, (h.2.2.1.lt k hk).2⟩

/-- the rows of a list, each owned, no two in one block -/
structure Rows1 (lo hi : Nat) (w : World) (rvs : List Value) (xss : List (List Int)) : Prop where
  len : rvs.length = xss.length
  own : ∀ j, j < xss.length → OwI lo hi w (rvs.getD j (.slice none 0 0)) (xss.getD j [])
  dj : ∀ i j, i < j → j < xss.length → Dj (rvs.getD i (.slice none 0 0)) (rvs.getD j (.slice none 0 0))

def OwR (lo hi : Nat) (w : World) (v : Value) (xss : List (List Int)) : Prop :=
  xss.length ≤ 8796093022208 ∧ (∀ k, v.ownBlock = some k → k < hi) ∧
  ∃ rvs, w.ownsRow lo 25 1 v xss.length rvs ∧ Rows1 lo hi w rvs xss ∧ ∀ j, j < xss.length → Dj v (rvs.getD j (.slice none 0 0))

theorem OwR.rd {lo hi : Nat} {w : World} {v : Value} {xss : List (List Int)} (h : OwR lo hi w v xss) : RdR lo hi w v xss := by
  obtain ⟨h1, hh, rvs, h3, hr, hd⟩ := h
  refine ⟨h1, ?_⟩
  have h3' := h3
  obtain ⟨_, h4⟩ := h3
  rcases h4 with ⟨h4, h5⟩ | ⟨g, cap, cur, hv, hg, hhp, hn, hcap, hsz, ht⟩
  · exact .inl ⟨none, 0, List.length_eq_zero_iff.1 h5, h4⟩
  · by_cases h0 : xss.length = 0
    · exact .inl ⟨some ⟨g, 0, none⟩, cap, List.length_eq_zero_iff.1 h0, by rw [hv, h0]⟩
    · subst hv
      refine .inr ⟨g, 0, cap, rfl, by omega, hg, hh g rfl, fun j hj => ⟨rvs.getD j (.slice none 0 0), ?_, (hr.own j hj).rd⟩⟩
      rw [Nat.zero_add, h3'.cellAt j (by omega)]
      have : j < rvs.length := by rw [hr.len]; exact hj
      simp [List.getD, List.getElem?_eq_getElem this]

theorem Rows1.chg {lo hi lo' hi' : Nat} {w w' : World} {rvs : List Value} {xss : List (List Int)} (h : Rows1 lo hi w rvs xss) (hb : Chg lo' hi' w w') (hs : hi ≤ lo' ∨ hi' ≤ lo) : Rows1 lo hi w' rvs xss :=
  ⟨h.len, fun j hj => (h.own j hj).chg hb hs, h.dj⟩
theorem OwR.chg {lo hi lo' hi' : Nat} {w w' : World} {v : Value} {xss : List (List Int)} (h : OwR lo hi w v xss) (hb : Chg lo' hi' w w') (hs : hi ≤ lo' ∨ hi' ≤ lo) : OwR lo hi w' v xss := by
  obtain ⟨h1, hh, rvs, h3, hr, hd⟩ := h
  exact ⟨h1, hh, rvs, ownsRow_chg h3 hb (fun k hk => by have h1 := hh k hk; have h2 := (h3.lt k hk).1; omega), hr.chg hb hs, hd⟩
theorem OwR.below {lo hi : Nat} {w w' : World} {v : Value} {xss : List (List Int)} (h : OwR lo hi w v xss) (hb : Below w.heap.size w w') : OwR lo hi w' v xss := h.chg (hb.chg 0 0) (.inr (Nat.zero_le _))
theorem OwR.qt {lo hi : Nat} {w w' : World} {v : Value} {xss : List (List Int)} (h : OwR lo hi w v xss) (hq : Qt w w') : OwR lo hi w' v xss := h.below hq.below

theorem OwR.mono {lo hi lo' hi' : Nat} {w : World} {v : Value} {xss : List (List Int)} (h : OwR lo hi w v xss) (h1 : lo' ≤ lo) (h2 : hi ≤ hi') : OwR lo' hi' w v xss := by
  obtain ⟨a, b, rvs, ⟨c, d⟩, r, e⟩ := h
  refine ⟨a, fun k hk => by have := b k hk; omega, rvs, ⟨c, ?_⟩, ⟨r.len, fun j hj => (r.own j hj).mono h1 h2, r.dj⟩, e⟩
  rcases d with d | ⟨g, cap, cur, hv, hg, rr⟩
  · exact .inl d
  · exact .inr ⟨g, cap, cur, hv, by omega, rr⟩

/-- one row more, in a block that no other has -/
theorem Rows1.snoc {lo hi : Nat} {w : World} {rvs : List Value} {xss : List (List Int)} {v : Value} {xs : List Int} (h : Rows1 lo hi w rvs xss) (hv : OwI lo hi w v xs) (hd : ∀ j, j < xss.length → Dj (rvs.getD j (.slice none 0 0)) v) :
    Rows1 lo hi w (rvs ++ [v]) (xss ++ [xs]) := by
  have hl := h.len
  refine ⟨by simp [hl], fun j hj => ?_, fun i j hij hj => ?_⟩
  · rw [List.length_append] at hj
    by_cases e : j < xss.length
    · have := h.own j e
      simp only [List.getD] at this ⊢
      rw [List.getElem?_append_left (by omega), List.getElem?_append_left (by omega)]; exact this
    · obtain rfl : j = xss.length := by simp at hj; omega
      simp only [List.getD]
      rw [List.getElem?_append_right (by omega), List.getElem?_append_right (by omega), hl]
      simpa using hv
  · rw [List.length_append] at hj
    have hi : i < xss.length := by simp at hj; omega
    by_cases e : j < xss.length
    · have := h.dj i j hij e
      simp only [List.getD] at this ⊢
      rw [List.getElem?_append_left (by omega), List.getElem?_append_left (by omega)]; exact this
    · obtain rfl : j = xss.length := by simp at hj; omega
      have := hd i hi
      simp only [List.getD] at this ⊢
      rw [List.getElem?_append_left (by omega), List.getElem?_append_right (by omega), hl]
      simpa using this

/-- copies: the first j rows, the others nil -/
def setR (rvs : List Value) (n : Nat) : List Value := rvs ++ List.replicate (n - rvs.length) (.slice none 0 0)
theorem setR_zero (n : Nat) : (madeCells #[Value.slice none 0 0] n).toList = setR [] n := by
  simp [setR, toList_madeCells_one]
theorem setR_get (rvs : List Value) (n j : Nat) (h : rvs.length = j) (hj : j < n) : (setR rvs n)[j]? = some (.slice none 0 0) := by
  unfold setR
  rw [List.getElem?_append_right (by omega), List.getElem?_replicate, if_pos (by omega)]
theorem setR_step (rvs : List Value) (v : Value) (n j : Nat) (h : rvs.length = j) (hj : j < n) : (setR rvs n).set j v = setR (rvs ++ [v]) n := by
  subst h
  have e : n - rvs.length = (n - (rvs.length + 1)) + 1 := by omega
  unfold setR
  rw [List.length_append, e, List.replicate_succ]
  simp

theorem toR_ne (n b off cap : Nat) (xss : List (List Int)) (lo hi : Nat) (w : World) (hn : n ≤ 8796093022208) (hx : xss.length = n) (hhi : hi ≤ w.heap.size)
    (hc : ∀ j, j < n → ∃ rv, w.cell? ⟨b, off + j, none⟩ = some rv ∧ RdI lo hi w rv (xss.getD j [])) (hbb : b < w.heap.size) :
    Calls Try.prog 59 #[.slice (some ⟨b, off, none⟩) n cap] w fun e w' => ∃ v, e = .returned v ∧ OwR w.heap.size w'.heap.size w' v xss ∧ Below w.heap.size w w' := by
  obtain ⟨i0, hi', hz0, hz1, hz2⟩ := info_parts Try.info25
  have HX := Lib.hid hx
  have HC := Lib.hid hc
  clear hx hc
  go_enter Try.func59, Try.ntmps59
  go_wp2_with (at_make; refine wpList_make_full _ rfl _ _ 22 rfl w.heap.size 25 i0 (.slice none 0 0) 1 Try.underlying22 hi' hz0 hz1 _ _ _ _ n rfl rfl rfl rfl ?c1 ?c2 ?c3 ?_)
  case c1 => rw [hz2]; omega
  case c2 => unfold maxLen; omega
  case c3 => exact Nat.le_refl _
  intro w1 hown hgr
  rw [setR_zero n] at hown
  have hbl : Below w.heap.size w w1 := (Below.refl _ _).grown hgr (Nat.le_refl _) (by simp)
  have hsz : w.heap.size < w1.heap.size := (hown.lt _ rfl).2
  clear hgr
  go_wp2
  go_loopw [4] (fun i wr => ∃ (k : Nat) (rvs : List Value), k ≤ n ∧ i = .int .i64 k ∧ wr.ownsRow w.heap.size 25 1 (.slice (some ⟨w.heap.size, 0, none⟩) n n) n (setR rvs n) ∧ Rows1 (w.heap.size + 1) wr.heap.size wr rvs (xss.take k) ∧ rvs.length = k ∧ Below w.heap.size w wr ∧ w.heap.size < wr.heap.size) (fun i _ => n - (intOf i).toNat)
  case atStart => exact ⟨0, [], Nat.zero_le _, rfl, hown, ⟨rfl, fun j hj => by simp at hj, fun i j hij hj => by simp at hj⟩, rfl, hbl, hsz⟩
  case round =>
    clear hown hbl hsz
    obtain ⟨k, rvs, hk, rfl, hown, hrows, hlen, hbl, hsz⟩ := hrel
    have HL := Lib.hid hlen
    clear hlen
    by_cases hlt : k < n
    · obtain ⟨rv, h1, r1⟩ := HC.out k hlt
      replace h1 := (hbl.cell (p := ⟨b, off + k, none⟩) hbb).trans h1
      replace r1 : RdI lo hi wr rv (xss.getD k []) := r1.chg (lo' := w.heap.size) (hi' := w.heap.size) (w := w) ⟨hbl.os, hbl.tape, hbl.output, hbl.size, fun j hj _ => hbl.block j hj⟩ (.inl hhi)
      go_wp2_with fail
      refine (toI _ _ _ r1).mono ?_
      rintro e w2 ⟨a2, c2, rfl, o2, b2⟩
      generalize hys : xss.getD k [] = ys at *
      have HYS := Lib.hid hys
      clear hys
      obtain ⟨v2, hv2⟩ : ∃ v2, v2 = Value.slice a2 ys.length c2 := ⟨_, rfl⟩
      have HV2 := Lib.hid hv2
      rw [← hv2] at o2
      clear hv2
      have hb2 : Below w.heap.size w w2 := hbl.trans (b2.mono (by omega))
      have hown2 := ownsRow_chg hown (b2.chg 0 0) (fun _ _ => .inr (Nat.zero_le _))
      have h2 := (hown2.cellAt k (by omega)).trans (setR_get rvs n k HL.out hlt)
      have h3 := hown2.frozenAt k
      have hst := hown2.stored k v2
      rw [setR_step rvs v2 n k HL.out hlt] at hst
      have hs2 := b2.size
      have hrows2 := hrows.chg (b2.chg 0 0) (.inr (Nat.zero_le _))
      clear hown hrows hown2
      go_wp2
      go_roundw
      case rel =>
        rw [← HV2.out]
        refine ⟨k+1, rvs ++ [v2], by omega, by go_num, hst.1, ?_, by simp [HL.out], hb2.setCell (Nat.le_refl _) _, by simp [World.setCell]; omega⟩
        have hch : Chg w.heap.size (w.heap.size + 1) w2 (w2.setCell ⟨w.heap.size, k, none⟩ v2) := (Chg.refl w.heap.size (w.heap.size + 1) w2).setCell (p := ⟨w.heap.size, k, none⟩) ⟨Nat.le_refl _, Nat.lt_succ_self _⟩ v2
        have e1 : xss.take (k+1) = xss.take k ++ [ys] := by
          rw [← HYS.out]
          rw [List.take_add_one, List.getElem?_eq_getElem (by rw [HX.out]; exact hlt)]
          simp [List.getD, List.getElem?_eq_getElem (show k < xss.length by rw [HX.out]; exact hlt)]
        rw [e1]
        have hz : (w2.setCell ⟨w.heap.size, k, none⟩ v2).heap.size = w2.heap.size := by simp [World.setCell]
        rw [hz]
        refine Rows1.snoc ?_ ?_ ?_
        · have := hrows2.chg hch (.inr (Nat.le_refl _))
          exact ⟨this.len, fun j hj => (this.own j hj).mono (Nat.le_refl _) hs2, this.dj⟩
        · exact (o2.chg hch (.inr (by omega))).mono (by omega) (Nat.le_refl _)
        · intro j hj q hq hq2
          have h1 := (hrows2.own j hj).blk q hq
          have h2 := o2.blk q hq2
          omega
      case measure => simp [intOf]; omega
    · go_wp2
      go_ret
      obtain rfl : k = n := by omega
      have e1 : xss.take k = xss := List.take_of_length_le (by rw [HX.out]; exact Nat.le_refl _)
      have e2 : setR rvs k = rvs := by simp [setR, HL.out]
      rw [e1] at hrows
      rw [e2] at hown
      refine ⟨_, rfl, ⟨by rw [HX.out]; exact hn, fun q hq => ?_, rvs, by rw [HX.out]; exact hown, ⟨hrows.len, fun j hj => (hrows.own j hj).mono (by omega) (Nat.le_refl _), hrows.dj⟩, fun j hj q hq hq2 => ?_⟩, hbl⟩
      · exact (hown.lt q hq).2
      · have h1 := (hrows.own j hj).blk q hq2
        have h2 : q = w.heap.size := by
          have : Value.ownBlock (.slice (some ⟨w.heap.size, 0, none⟩) k k) = some q := hq
          simp [Value.ownBlock] at this; omega
        omega

theorem toR_nil (a : Option Addr) (cap : Nat) (w : World) :
    Calls Try.prog 59 #[.slice a 0 cap] w fun e w' => ∃ v, e = .returned v ∧ w'.ownsRow w.heap.size 25 1 v 0 [] ∧ Below w.heap.size w w' := by
  obtain ⟨i0, hi, hz0, hz1, hz2⟩ := info_parts Try.info25
  go_enter Try.func59, Try.ntmps59
  go_wp2_with (at_make; refine wpList_make_full _ rfl _ _ 22 rfl w.heap.size 25 i0 (.slice none 0 0) 1 Try.underlying22 hi hz0 hz1 _ _ _ _ 0 rfl rfl rfl rfl ?c1 ?c2 ?c3 ?_)
  case c1 => omega
  case c2 => unfold maxLen; omega
  case c3 => exact Nat.le_refl _
  intro w1 hown hgr
  have hbl : Below w.heap.size w w1 := (Below.refl _ _).grown hgr (Nat.le_refl _) (by simp)
  clear hgr
  have e0 : (madeCells #[Value.slice none 0 0] 0).toList = [] := by rw [toList_madeCells_one]; rfl
  rw [e0] at hown
  go_wp2
  refine wp_loop_rounds 1 ?_
  rw [rounds_succ]
  go_wp2
  go_ret
  exact ⟨_, rfl, hown, hbl⟩

theorem OwR.nil {lo hi : Nat} {w : World} {v : Value} (h : w.ownsRow lo 25 1 v 0 []) (hh : w.heap.size ≤ hi) : OwR lo hi w v [] :=
  ⟨by simp, fun k hk => by have := (h.lt k hk).2; omega, [], h, ⟨rfl, fun j hj => by simp at hj, fun i j hij hj => by simp at hj⟩, fun j hj => by simp at hj⟩

theorem toR {lo hi : Nat} (v : Value) (xss : List (List Int)) (w : World) (h : RdR lo hi w v xss) (hhi : hi ≤ w.heap.size) :
    Calls Try.prog 59 #[v] w fun e w' => ∃ a c, e = .returned (.slice a xss.length c) ∧ OwR w.heap.size w'.heap.size w' (.slice a xss.length c) xss ∧ Below w.heap.size w w' := by
  have fin : ∀ (e : Ending) (w' : World) v', e = .returned v' → OwR w.heap.size w'.heap.size w' v' xss → Below w.heap.size w w' → ∃ a c, e = .returned (.slice a xss.length c) ∧ OwR w.heap.size w'.heap.size w' (.slice a xss.length c) xss ∧ Below w.heap.size w w' := by
    intro e w' v' he ho hb
    obtain ⟨a, c, hv⟩ := ho.rd.shape
    subst hv
    exact ⟨a, c, he, ho, hb⟩
  obtain ⟨h1, h⟩ := h
  rcases h with ⟨a, cap, rfl, rfl⟩ | ⟨b, off, cap, rfl, h0, hlo, hb, hc⟩
  · exact (toR_nil a cap w).mono fun e w' ⟨v', he, ho, hb⟩ => fin e w' v' he (.nil ho (Nat.le_refl _)) hb
  · exact (toR_ne xss.length b off cap xss lo hi w h1 rfl hhi hc (by omega)).mono fun e w' ⟨v', he, ho, hb⟩ => fin e w' v' he ho hb

end Go.Proofs.Ytgcidkcedfliiaa
