/- The laws' helpers on lists of lists of numbers: marks are written, and are still there. -/
import Derived.Test.YtgcidkcedfliiaaOwR
set_option linter.unusedSimpArgs false
set_option linter.unusedVariables false
namespace Go.Proofs.Ytgcidkcedfliiaa
open Go.RowKit

/-- the marks of the rows: they go on from row to row -/
def marksR (k : Int) (xss : List (List Int)) : List (List Int) := (List.range xss.length).map (fun j => marks (k + (lens (xss.take j) : Int)) (xss.getD j []).length)
theorem marksR_len (k : Int) (xss : List (List Int)) : (marksR k xss).length = xss.length := by simp [marksR]
theorem marksR_get {k : Int} {xss : List (List Int)} {j : Nat} (h : j < xss.length) : (marksR k xss).getD j [] = marks (k + (lens (xss.take j) : Int)) (xss.getD j []).length := by
  simp [marksR, List.getD, h]
theorem lens_le (xss : List (List Int)) (j : Nat) : lens (xss.take j) ≤ lens xss := by
  have e : xss = xss.take j ++ xss.drop j := (List.take_append_drop j xss).symm
  have : lens xss = lens (xss.take j) + lens (xss.drop j) := by
    conv => lhs; rw [e]
    rw [lens, List.map_append, List.sum_append]
    rfl
  omega

/-- after j rows: these bear their marks, the others are as they were -/
def markRTo (k : Int) (xss : List (List Int)) (j : Nat) : List (List Int) := (List.range xss.length).map (fun i => if i < j then (marksR k xss).getD i [] else xss.getD i [])
theorem markRTo_len (k : Int) (xss : List (List Int)) (j : Nat) : (markRTo k xss j).length = xss.length := by simp [markRTo]
theorem markRTo_get {k : Int} {xss : List (List Int)} {i j : Nat} (h : i < xss.length) : (markRTo k xss j).getD i [] = if i < j then (marksR k xss).getD i [] else xss.getD i [] := by
  simp only [markRTo, List.getD, List.getElem?_map, List.getElem?_range h]
  rfl
theorem list_ext_getD {xs ys : List (List Int)} (hl : xs.length = ys.length) (h : ∀ i, i < xs.length → xs.getD i [] = ys.getD i []) : xs = ys := by
  apply List.ext_getElem hl
  intro i h1 h2
  have := h i h1
  simpa [List.getD, List.getElem?_eq_getElem h1, List.getElem?_eq_getElem h2] using this
theorem markRTo_zero (k : Int) (xss : List (List Int)) : markRTo k xss 0 = xss :=
  list_ext_getD (markRTo_len _ _ _) (fun i hi => by rw [markRTo_get (by rw [markRTo_len] at hi; exact hi)]; simp)
theorem markRTo_all (k : Int) (xss : List (List Int)) : markRTo k xss xss.length = marksR k xss :=
  list_ext_getD (by rw [markRTo_len, marksR_len]) (fun i hi => by rw [markRTo_len] at hi; rw [markRTo_get hi, if_pos hi])

/-- one row turns -/
theorem Rows1.mark {lo hi b : Nat} {w w' : World} {rvs : List Value} {k : Int} {xss : List (List Int)} {j : Nat} (h : Rows1 lo hi w rvs (markRTo k xss j)) (hj : j < xss.length)
    (ho : OwI lo hi w' (rvs.getD j (.slice none 0 0)) ((marksR k xss).getD j [])) (hch : Chg b (b+1) w w') (hb : (rvs.getD j (.slice none 0 0)).ownBlock = some b ∨ w' = w) : Rows1 lo hi w' rvs (markRTo k xss (j+1)) := by
  have hl : (markRTo k xss (j+1)).length = xss.length := markRTo_len _ _ _
  have hl' : (markRTo k xss j).length = xss.length := markRTo_len _ _ _
  refine ⟨by rw [h.len, hl, hl'], fun i hi => ?_, fun i i' hii hi => h.dj i i' hii (by omega)⟩
  rw [hl] at hi
  rw [markRTo_get hi]
  by_cases e : i = j
  · subst e
    rw [if_pos (by omega)]; exact ho
  · have hown := h.own i (by omega)
    rw [markRTo_get hi] at hown
    have e2 : (if i < j + 1 then (marksR k xss).getD i [] else xss.getD i []) = (if i < j then (marksR k xss).getD i [] else xss.getD i []) := by
      by_cases e3 : i < j
      · rw [if_pos e3, if_pos (by omega)]
      · rw [if_neg e3, if_neg (by omega)]
    rw [e2]
    rcases hb with hb | hb
    · refine hown.chg' hch (fun q hq => ?_)
      have hne : q ≠ b := by
        intro e4; subst e4
        rcases Nat.lt_or_gt_of_ne e with e5 | e5
        · exact h.dj i j e5 (by omega) q hq hb
        · exact h.dj j i e5 (by omega) q hb hq
      omega
    · rw [hb]; exact hown

theorem OwI.mark_any {lo hi : Nat} {w : World} {v : Value} {xs : List Int} (h : OwI lo hi w v xs) : ∃ b, (v.ownBlock = some b ∧ lo ≤ b ∧ b < hi) ∨ (v.ownBlock = none ∧ b = lo) := by
  cases e : v.ownBlock with
  | none => exact ⟨lo, .inr ⟨rfl, rfl⟩⟩
  | some b => exact ⟨b, .inl ⟨rfl, (h.blk b e).1, (h.blk b e).2.1⟩⟩

/-- marks: only the row's own block turns -/
theorem markI' {lo hi : Nat} (v : Value) (xs : List Int) (k : Int) (w : World) (h : OwI lo hi w v xs) (hk0 : 0 ≤ k) (hk1 : k ≤ 35184372088832) :
    Calls Try.prog 29 #[v, .int .i64 k] w fun e w' => e = .returned (.int .i64 (k + xs.length)) ∧ OwI lo hi w' v (marks k xs.length) ∧ Chg lo hi w w' ∧ (∃ b, Chg b (b+1) w w' ∧ (v.ownBlock = some b ∨ w' = w)) := by
  cases e : v.ownBlock with
  | some b =>
    have hb := h.blk b e
    refine (markI v xs k w (h.narrow (.inl e)) hk0 hk1).mono fun e' w' ⟨h1, h2, h3⟩ => ⟨h1, h2.mono hb.1 hb.2.1, h3.mono hb.1 hb.2.1, b, h3, .inl rfl⟩
  | none =>
    obtain ⟨h1, h2, h3, hh⟩ := h
    have h3' := h3
    obtain ⟨_, h4⟩ := h3
    rcases h4 with ⟨h4, h5⟩ | ⟨g, cap, cur, hv, hg, hhp, hn, hcap, hsz, ht⟩
    · have e := List.length_eq_zero_iff.1 h5
      subst e
      subst h4
      refine (markI_nil none 0 k w).mono fun e w' ⟨he, hw⟩ => ?_
      subst hw
      exact ⟨by rw [he]; simp, ⟨by simp [marks], by simp [marks], by simpa [marks] using h3', hh⟩, Chg.refl _ _ _, 0, Chg.refl _ _ _, .inr rfl⟩
    · subst hv
      simp [Value.ownBlock] at e

theorem markR_ne (n g cap : Nat) (xss : List (List Int)) (rvs : List Value) (k : Int) (w : World) (hn : n ≤ 8796093022208) (hk0 : 0 ≤ k) (hk1 : k + lens xss ≤ 17592186044416) (hx : xss.length = n)
    (lo hi : Nat) (ho : w.ownsRow lo 25 1 (.slice (some ⟨g, 0, none⟩) n cap) n rvs) (hr : Rows1 lo hi w rvs xss) (hd : ∀ j, j < n → Dj (.slice (some ⟨g, 0, none⟩) n cap) (rvs.getD j (.slice none 0 0))) :
    Calls Try.prog 38 #[.slice (some ⟨g, 0, none⟩) n cap, .int .i64 k] w fun e w' => e = .returned (.int .i64 (k + lens xss)) ∧
      w'.ownsRow lo 25 1 (.slice (some ⟨g, 0, none⟩) n cap) n rvs ∧ Rows1 lo hi w' rvs (marksR k xss) ∧ Chg lo hi w w' := by
  have HX := Lib.hid hx
  have HD := Lib.hid hd
  clear hx hd
  rw [← markRTo_zero k xss] at hr
  go_enter Try.func38, Try.ntmps38
  go_wp2
  go_loopw [1, 5] (fun kk i wr => ∃ j : Nat, j ≤ n ∧ i = .int .i64 j ∧ kk = .int .i64 (k + (lens (xss.take j) : Int)) ∧ wr.ownsRow lo 25 1 (.slice (some ⟨g, 0, none⟩) n cap) n rvs ∧ Rows1 lo hi wr rvs (markRTo k xss j) ∧ Chg lo hi w wr) (fun _ i _ => n - (intOf i).toNat)
  case atStart => exact ⟨0, Nat.zero_le _, rfl, by simp [lens], ho, hr, Chg.refl _ _ _⟩
  case round =>
    clear ho hr
    obtain ⟨j, hj, rfl, rfl, hown, hrows, hch⟩ := hrel
    by_cases hlt : j < n
    · have hlt' : j < xss.length := by rw [HX.out]; exact hlt
      obtain ⟨rv, hrv⟩ : ∃ rv, rv = rvs.getD j (.slice none 0 0) := ⟨_, rfl⟩
      have h1 := hown.cellAt j (by omega)
      have hl : j < rvs.length := by rw [hrows.len, markRTo_len]; exact hlt'
      rw [List.getElem?_eq_getElem hl] at h1
      have e1 : rvs[j] = rv := by rw [hrv]; simp [List.getD, List.getElem?_eq_getElem hl]
      rw [e1] at h1
      have ho1 := hrows.own j (by rw [markRTo_len]; exact hlt')
      rw [markRTo_get hlt', if_neg (Nat.lt_irrefl j), ← hrv] at ho1
      have hle := lens_le xss j
      have hle2 := lens_le xss (j+1)
      have hst := lens_step (xss := xss) hlt'
      generalize hys : xss.getD j [] = ys at *
      have HYS := Lib.hid hys
      have HRV := Lib.hid hrv
      have HST := Lib.hid hst
      clear hrv hst e1 hys
      go_wp2_with (go_at_call 29; refine (markI' _ _ _ _ ho1 (by omega) (by omega)).mono ?_; rintro e w' ⟨rfl, o2, c2, hx2⟩)
      go_roundw
      case rel =>
        obtain ⟨b, c3, hb⟩ := hx2
        have hD := HD.out j hlt
        rw [← HRV.out] at hD
        refine ⟨j+1, by omega, by go_num, by rw [HST.out]; congr 1; omega, ?_, ?_, hch.trans c2⟩
        · rcases hb with hb | hb
          · refine ownsRow_chg hown c3 (fun q hq => ?_)
            have : q ≠ b := by intro e; subst e; exact hD q hq hb
            omega
          · rw [hb]; exact hown
        · refine Rows1.mark hrows hlt' ?_ c3 ?_
          · rw [marksR_get hlt', ← HRV.out, HYS.out]; exact o2
          · rw [← HRV.out]; exact hb
      case measure => simp [intOf]; omega
    · go_wp2
      go_ret
      obtain rfl : j = n := by omega
      have e1 : markRTo k xss j = marksR k xss := by rw [← HX.out]; exact markRTo_all k xss
      have e2 : xss.take j = xss := List.take_of_length_le (by rw [HX.out]; exact Nat.le_refl _)
      rw [e1] at hrows
      exact ⟨by rw [e2]; rfl, hown, hrows, hch⟩

theorem markR_nil (a : Option Addr) (cap : Nat) (k : Int) (w : World) :
    Calls Try.prog 38 #[.slice a 0 cap, .int .i64 k] w fun e w' => e = .returned (.int .i64 k) ∧ w = w' := by
  go_enter Try.func38, Try.ntmps38
  go_wp2
  refine wp_loop_rounds 1 ?_
  rw [rounds_succ]
  go_wp2
  go_ret
  exact ⟨rfl, rfl⟩

theorem markR {lo hi : Nat} (v : Value) (xss : List (List Int)) (k : Int) (w : World) (h : OwR lo hi w v xss) (hk0 : 0 ≤ k) (hk1 : k + lens xss ≤ 17592186044416) :
    Calls Try.prog 38 #[v, .int .i64 k] w fun e w' => e = .returned (.int .i64 (k + lens xss)) ∧ OwR lo hi w' v (marksR k xss) ∧ Chg lo hi w w' := by
  obtain ⟨h1, hh, rvs, h3, hr, hd⟩ := h
  have h3' := h3
  obtain ⟨_, h4⟩ := h3
  rcases h4 with ⟨h4, h5⟩ | ⟨g, cap, cur, hv, hg, hhp, hn, hcap, hsz, ht⟩
  · have e := List.length_eq_zero_iff.1 h5
    subst e
    subst h4
    refine (markR_nil none 0 k w).mono fun e w' ⟨he, hw⟩ => ?_
    subst hw
    exact ⟨by rw [he]; simp [lens], ⟨by simp [marksR], hh, rvs, h3', hr, hd⟩, Chg.refl _ _ _⟩
  · subst hv
    refine (markR_ne xss.length g cap xss rvs k w h1 hk0 hk1 rfl lo hi h3' hr hd).mono fun e w' ⟨he, ho, hr', hc⟩ => ⟨he, ⟨by rw [marksR_len]; exact h1, hh, rvs, by rw [marksR_len]; exact ho, hr', fun j hj => hd j (by rw [marksR_len] at hj; exact hj)⟩, hc⟩

end Go.Proofs.Ytgcidkcedfliiaa
