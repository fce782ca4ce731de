/- The program's numbers out of bounded numbers. -/
import Derived.Test.YtebgbplhcaocoaaNumbers
set_option linter.unusedSimpArgs false
set_option linter.unusedVariables false
set_option maxRecDepth 100000
namespace Go.Proofs.Ytebgbplhcaocoaa
open Go.RowKit

theorem ownsRow_take {w : World} {B e n k cap g : Nat} {xs : List Value} (h : w.ownsRow B e 1 (.slice (some ⟨g, 0, none⟩) n cap) n xs) (hk : k ≤ n) : w.ownsRow B e 1 (.slice (some ⟨g, 0, none⟩) k cap) k (xs.take k) := by
  obtain ⟨h1, h2 | ⟨g', cap', cur, hv, hg, hh, hn, hm, hs, ht⟩⟩ := h
  · simp at h2
  · simp only [Value.slice.injEq, Option.some.injEq, Addr.mk.injEq, and_true, true_and] at hv
    obtain ⟨rfl, rfl⟩ := hv
    refine ⟨by rw [List.length_take]; omega, .inr ⟨g, cap, cur, rfl, hg, hh, by omega, hm, hs, ?_⟩⟩
    rw [← ht, List.take_take]
    congr 1
    omega

def numsOf (os : List (Option Int)) : List Int × Int :=
  if os.all (fun o => !o.isNone) = false then ([], 3) else if 40 < (trim (os.map numO)).length then ([], 3) else (trim (os.map numO), 0)

theorem allS_take {os : List (Option Int)} {k : Nat} (hk : k < os.length) (h : (os.take k).all (fun o => !o.isNone) = true) (e : (os.getD k none).isNone = false) : (os.take (k+1)).all (fun o => !o.isNone) = true := by
  rw [List.take_add_one, List.all_append, h, List.getElem?_eq_getElem hk]
  simp [List.getD, List.getElem?_eq_getElem hk] at e
  simp [e]
theorem allS_not {os : List (Option Int)} {k : Nat} (hk : k < os.length) (e : (os.getD k none).isNone = true) : os.all (fun o => !o.isNone) = false := by
  simp [List.getD, List.getElem?_eq_getElem hk] at e
  rw [List.all_eq_false]
  exact ⟨_, List.getElem_mem hk, by simp [e]⟩

theorem wz (n g cap : Nat) (xs : List Int) (w : World) (hx : xs.length = n) (hn : n ≤ 17592186044416) (hcap : n ≤ cap)
    (hc : ∀ j, j < n → w.cell? ⟨g, 0 + j, none⟩ = some (.int .i64 (xs.getD j 0))) :
    Calls Try.prog 134 #[.slice (some ⟨g, 0, none⟩) n cap] w fun e w' => e = .returned (.slice (some ⟨g, 0, none⟩) (tl xs n) cap) ∧ Qt w w' := by
  by_cases h0 : n = 0
  · subst h0
    exact wz_nil _ cap w
  · exact wz_ne n g 0 cap xs w hx hn hcap hc

set_option maxHeartbeats 1600000 in
theorem numbersOf_ne (n g cap : Nat) (os : List (Option Int)) (w : World) (hx : os.length = n) (hn : n ≤ 1000000) (hg : g < w.heap.size) (hl : ∀ j, j < n → OLim (os.getD j none))
    (hc : ∀ j, j < n → w.cell? ⟨g, j * 2, none⟩ = some (.int .i64 (numO (os.getD j none))) ∧ w.cell? ⟨g, j * 2 + 1, none⟩ = some (.bool (os.getD j none).isNone)) :
    Calls Try.prog 81 #[.slice (some ⟨g, 0, none⟩) n cap] w fun e w' => ∃ a c, e = .returned (.tuple #[.slice a (numsOf os).1.length c, .int .i64 (numsOf os).2]) ∧
      w'.ownsRow w.heap.size 2 1 (.slice a (numsOf os).1.length c) (numsOf os).1.length ((numsOf os).1.map (Value.int .i64)) ∧ Below w.heap.size w w' := by
  obtain ⟨i0, hi', z0, z1, z2⟩ := info_parts Try.info2
  have HX := Lib.hid hx
  have HC := Lib.hid hc
  clear hx hc
  have hxl : (os.map numO).length = n := by rw [List.length_map]; exact HX.out
  have HXL := Lib.hid hxl
  clear hxl
  go_enter Try.func81, Try.ntmps81
  go_wp2_with (at_make; refine wpList_make_full _ rfl _ _ 37 rfl w.heap.size 2 i0 (.int .i64 0) 1 Try.underlying37 hi' z0 z1 _ _ _ _ n rfl rfl rfl rfl ?c1 ?c2 ?c3 ?_)
  case c1 => rw [z2]; omega
  case c2 => unfold maxLen; omega
  case c3 => exact Nat.le_refl _
  intro w1 hown hgr
  rw [setTo_zero (os.map numO) n] at hown
  have hbl : Below w.heap.size w w1 := (Below.refl _ _).grown hgr (Nat.le_refl _) (by simp)
  have hz : w.heap.size < w1.heap.size := (hown.lt _ rfl).2
  clear hgr
  go_wp2
  go_loopw [12, 5, 6] (fun i _ _ wr => ∃ k : Nat, k ≤ n ∧ i = .int .i64 k ∧ wr.ownsRow w.heap.size 2 1 (.slice (some ⟨w.heap.size, 0, none⟩) n n) n (setTo (os.map numO) k n) ∧ Below w.heap.size w wr ∧ w.heap.size < wr.heap.size ∧ (os.take k).all (fun o => !o.isNone) = true) (fun i _ _ _ => n - (intOf i).toNat)
  case atStart => exact ⟨0, Nat.zero_le _, rfl, hown, hbl, hz, rfl⟩
  case round =>
    clear hown hbl hz
    obtain ⟨k, hk, rfl, hown, hbl, hz, hall⟩ := hrel
    have HA := Lib.hid hall
    clear hall
    by_cases hlt : k < n
    · obtain ⟨h1, h2⟩ := HC.out k hlt
      replace h1 := (hbl.cell (p := ⟨g, k * 2, none⟩) hg).trans h1
      replace h2 := (hbl.cell (p := ⟨g, k * 2 + 1, none⟩) hg).trans h2
      have hkx : k < os.length := by rw [HX.out]; exact hlt
      have hgo : (os.map numO).getD k 0 = numO (os.getD k none) := by simp [List.getD, List.getElem?_eq_getElem hkx]
      have h3 := (hown.cellAt k (by omega)).trans (setTo_get (os.map numO) k n HXL.out hlt)
      have h4 := hown.frozenAt k
      have hst := (hown.stored k (.int .i64 (numO (os.getD k none)))).1
      rw [← hgo, setTo_step (os.map numO) k n HXL.out hlt] at hst
      cases hb : (os.getD k none).isNone with
      | true =>
        have hbad := allS_not hkx hb
        rw [hb] at h2
        have HBAD := Lib.hid hbad
        generalize hN : numO (os.getD k none) = N at *
        clear hbad hb hst hgo h3 h4 hN
        go_wp2
        go_ret2
        have e1 : numsOf os = ([], 3) := by unfold numsOf; rw [if_pos HBAD.out]
        rw [e1]
        exact ⟨none, 0, rfl, World.ownsRow_nil _ _ _ _, hbl.alloc hbl.size _⟩
      | false =>
        have hA2 := allS_take hkx HA.out hb
        rw [hb] at h2
        have HA2 := Lib.hid hA2
        generalize hN : numO (os.getD k none) = N at *
        have hst2 := Lib.hid (hst.alloc (.cells #[.int .i64 N, .bool false] 73))
        rw [hgo] at hst2
        clear hA2 hb hst hgo hN
        go_wp2
        go_roundw
        case rel => exact ⟨k+1, by omega, by go_num, hst2.out, (hbl.setCell (Nat.le_refl _) _).alloc (by simp [World.setCell]; exact hbl.size) _, by simp [World.setCell]; omega, HA2.out⟩
        case measure => simp [intOf]; omega
    · obtain rfl : k = n := by omega
      have hall : os.all (fun o => !o.isNone) = true := by have := HA.out; rwa [List.take_of_length_le (by rw [HX.out]; exact Nat.le_refl _)] at this
      rw [setTo_all (os.map numO) k HXL.out] at hown
      have hcell : ∀ j, j < k → wr.cell? ⟨w.heap.size, 0 + j, none⟩ = some (.int .i64 ((os.map numO).getD j 0)) := fun j hj => by
        rw [Nat.zero_add, hown.cellAt j (by omega)]
        have : j < (os.map numO).length := by rw [HXL.out]; exact hj
        rw [List.getElem?_map, List.getElem?_eq_getElem this]
        simp only [Option.map_some, List.getD, List.getElem?_eq_getElem this, Option.getD_some]
      have hle := tl_le (os.map numO) k
      have ht : trim (os.map numO) = (os.map numO).take (tl (os.map numO) k) := by unfold trim; rw [HXL.out]
      have hlen : (trim (os.map numO)).length = tl (os.map numO) k := by rw [ht, List.length_take]; have := HXL.out; omega
      have hsub := ownsRow_take hown hle
      have HOWN := Lib.hid hsub
      have HALL := Lib.hid hall
      have HT := Lib.hid ht
      have HLEN := Lib.hid hlen
      have HCELL := Lib.hid hcell
      clear hsub hall ht hlen hcell hown
      go_wp2_with fail
      refine (wz k w.heap.size k (os.map numO) wr HXL.out (by omega) (Nat.le_refl _) HCELL.out).mono ?_
      rintro e w2 ⟨rfl, hq⟩
      have hB := hbl.trans (hq.below.mono (Nat.le_of_lt hz))
      have hown2 := ownsRow_chg HOWN.out (hq.chg 0 0) (fun _ _ => .inr (Nat.zero_le _))
      have HO2 := Lib.hid hown2
      clear hown2
      generalize htl : tl (os.map numO) k = m at *
      have HTL := Lib.hid htl
      clear htl
      by_cases h40 : m ≤ 40
      · go_wp2
        go_ret2
        have e1 : numsOf os = (trim (os.map numO), 0) := by
          unfold numsOf
          rw [if_neg (by rw [HALL.out]; simp), if_neg (by rw [HLEN.out]; omega)]
        rw [e1]
        refine ⟨some ⟨w.heap.size, 0, none⟩, k, by rw [HLEN.out]; rfl, ?_, hB⟩
        have := HO2.out
        rw [← List.map_take, ← HT.out] at this
        rw [HLEN.out]
        exact this
      · go_wp2
        go_ret2
        have e1 : numsOf os = ([], 3) := by
          unfold numsOf
          rw [if_neg (by rw [HALL.out]; simp), if_pos (by rw [HLEN.out]; omega)]
        rw [e1]
        exact ⟨none, 0, rfl, World.ownsRow_nil _ _ _ _, hB⟩

end Go.Proofs.Ytebgbplhcaocoaa
