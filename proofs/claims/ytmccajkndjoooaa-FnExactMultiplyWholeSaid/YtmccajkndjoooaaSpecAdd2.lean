/- AddWhole of the model. -/
import Derived.Test.YtmccajkndjoooaaSpecAdd
set_option linter.unusedSimpArgs false
set_option linter.unusedVariables false
namespace Go.Proofs.Ytmccajkndjoooaa
open Go.RowKit

theorem RdI.cells {lo hi : Nat} {w : World} {a : Option Addr} {n c : Nat} {xs : List Int} (h : RdI lo hi w (.slice a n c) xs) (hn : xs.length = n) : ∀ j, j < n → ∃ b off, a = some ⟨b, off, none⟩ ∧ w.cell? ⟨b, off + j, none⟩ = some (.int .i64 (xs.getD j 0)) := by
  intro j hj
  obtain ⟨_, _, ⟨a', c', rfl, _⟩ | ⟨b, off, c', hv, _, _, _, hc⟩⟩ := h
  · simp at hn; omega
  · simp only [Value.slice.injEq] at hv
    obtain ⟨rfl, _, _⟩ := hv
    exact ⟨b, off, rfl, hc j (by omega)⟩

set_option maxHeartbeats 6400000 in
theorem specAdd_ok {lo hi lo' hi' : Nat} (a a' : Option Addr) (n m cf cg : Nat) (f g : List Int) (k : Int) (w : World) (hf : RdI lo hi w (.slice a n cf) f) (hg : RdI lo' hi' w (.slice a' m cg) g) (hnf : f.length = n) (hmg : g.length = m) (hw : wholeB f = true) (hw' : wholeB g = true) (hk : (decide (-1000 ≤ k) && decide (k ≤ 1000)) = true) :
    Calls Try.prog 12 #[.slice a n cf, .slice a' m cg, .int .i64 k] w fun e w' => ∃ v c, e = .returned (.tuple #[.slice v (addOf f g k).1.length c, .int .i64 (addOf f g k).2]) ∧ OwI w.heap.size w'.heap.size w' (.slice v (addOf f g k).1.length c) (addOf f g k).1 ∧ Below w.heap.size w w' := by
  obtain ⟨i0, hi'', z0, z1, z2⟩ := info_parts Try.info2
  have hn := (wholeB_lim hw).1
  have hm := (wholeB_lim hw').1
  rw [hnf] at hn
  rw [hmg] at hm
  have HF := Lib.hid hnf
  have HG := Lib.hid hmg
  have HCF := Lib.hid (hf.cells hnf)
  have HCG := Lib.hid (hg.cells hmg)
  have HW := Lib.hid hw
  have HW' := Lib.hid hw'
  have HK := Lib.hid hk
  have hkx : -1000 ≤ k ∧ k ≤ 1000 := by simpa using hk
  have hkl : Lim k := by unfold Lim; omega
  obtain ⟨N, hN⟩ : ∃ N, N = max n m := ⟨_, rfl⟩
  have HN := Lib.hid hN
  have hN1 : N ≤ 40 := by omega
  have hNn : n ≤ N := by omega
  have hNm : m ≤ N := by omega
  clear hw hw' hk hkx hnf hmg hN
  by_cases hnm : n < m
  all_goals
    go_enter Try.func12, Try.ntmps12
    go_wp2_with fail
    refine (l01Poly _ f _ hf).mono ?_
    rw [HW.out]
    rintro e w1 ⟨rfl, q1⟩
    go_wp2_with fail
    refine (l01Poly _ g _ (hg.qt q1)).mono ?_
    rw [HW'.out]
    rintro e w2 ⟨rfl, q2⟩
    go_wp2_with fail
    refine (l01In _ _ _ _).mono ?_
    rw [HK.out]
    rintro e w3 ⟨rfl, q3⟩
    have hB3 := ((q1.trans q2).trans q3).below
    clear q1 q2 q3 hf hg
    go_wp2_with (at_make; refine wpList_make_full _ rfl _ _ 22 rfl w3.heap.size 2 i0 (.int .i64 0) 1 Try.underlying22 hi'' z0 z1 _ _ _ _ N rfl rfl ?_ ?_ ?_ ?_ ?_ ?_)
    · have := HN.out; omega
    · have := HN.out; omega
    · rw [z2]; omega
    · unfold maxLen; omega
    · exact Nat.le_refl _
    intro w4 hown hgr
    rw [setTo_zero (padL f N) N] at hown
    have hB4 : Below w.heap.size w w4 := hB3.grown hgr hB3.size (by simp)
    have hz : w3.heap.size < w4.heap.size := (hown.lt _ rfl).2
    have hzw : w.heap.size ≤ w3.heap.size := hB3.size
    clear hgr hB3
    go_wp2
    go_loopw [9] (fun i wr => ∃ j : Nat, j ≤ n ∧ i = .int .i64 j ∧ wr.ownsRow w3.heap.size 2 1 (.slice (some ⟨w3.heap.size, 0, none⟩) N N) N (setTo (padL f N) j N) ∧ Below w.heap.size w wr) (fun i _ => n - (intOf i).toNat)
    case atStart => exact ⟨0, Nat.zero_le _, rfl, hown, hB4⟩
    case round =>
      clear hown hB4
      obtain ⟨j, hj, rfl, hown, hB⟩ := hrel
      by_cases hlt : j < n
      · obtain ⟨b, off, rfl, h1⟩ := HCF.out j hlt
        replace h1 := hB.keep h1
        have hpl := padL_len f N (by rw [HF.out]; exact hNn)
        have hjN : j < N := by omega
        have h3 := (hown.cellAt j (by omega)).trans (setTo_get (padL f N) j N hpl hjN)
        have h4 := hown.frozenAt j
        have hst := (hown.stored j (.int .i64 ((padL f N).getD j 0))).1
        rw [setTo_step (padL f N) j N hpl hjN, padL_get f N j hjN] at hst
        generalize f.getD j 0 = x0 at *
        have HST := Lib.hid hst
        clear hst hpl hown
        go_wp2
        go_roundw
        case rel => exact ⟨j+1, by omega, by go_num, HST.out, hB.setCell hzw _⟩
        case measure => simp [intOf]; omega
      · obtain rfl : j = n := by omega
        have hpad : setTo (padL f N) j N = (addT f g k N 0).map (Value.int .i64) := by
          rw [← addT_zero f g k N (by rw [HF.out]; exact hNn), ← HF.out]
          exact setTo_pad f N (by rw [HF.out]; exact hNn)
        rw [hpad] at hown
        clear hpad
        go_wp2
        go_loopw [10, 11, 12] (fun i _ _ wr => ∃ q : Nat, q ≤ m ∧ i = .int .i64 q ∧ wr.ownsRow w3.heap.size 2 1 (.slice (some ⟨w3.heap.size, 0, none⟩) N N) N ((addT f g k N q).map (Value.int .i64)) ∧ addOk f g k q ∧ Below w.heap.size w wr) (fun i _ _ _ => m - (intOf i).toNat)
        case atStart => exact ⟨0, Nat.zero_le _, rfl, hown, fun i hi => by omega, hB⟩
        case round =>
          clear hown hB
          obtain ⟨q, hq, rfl, hown, hok, hB⟩ := hrel
          have HOK := Lib.hid hok
          clear hok
          by_cases hlq : q < m
          · obtain ⟨b, off, rfl, h1⟩ := HCG.out q hlq
            replace h1 := hB.keep h1
            have hqN : q < N := by omega
            have hget : (addT f g k N q).getD q 0 = f.getD q 0 := by rw [addT_get f g k N q q hqN, if_neg (Nat.lt_irrefl q)]
            have h3 : wr.cell? ⟨w3.heap.size, q, none⟩ = some (.int .i64 (f.getD q 0)) := by
              rw [hown.cellAt q (by omega), List.getElem?_map, List.getElem?_eq_getElem (by rw [addT_len]; exact hqN), ← hget]
              simp only [Option.map_some, List.getD, List.getElem?_eq_getElem (show q < (addT f g k N q).length by rw [addT_len]; exact hqN), Option.getD_some]
            have h4 := hown.frozenAt q
            have hst := (hown.stored q (.int .i64 (f.getD q 0 + k * g.getD q 0))).1
            rw [← List.map_set, addT_step f g k N q hqN] at hst
            have hlf := getD_lim HW.out q
            have hlg := getD_lim HW'.out q
            generalize hfx : f.getD q 0 = fx at *
            generalize hgx : g.getD q 0 = gx at *
            have HFX := Lib.hid hfx
            have HGX := Lib.hid hgx
            have HST := Lib.hid hst
            clear hst hget hfx hgx hown
            cases hmo : moreB fx k gx with
            | true =>
              have hv : moreV fx k gx = fx + k * gx := by unfold moreV; rw [if_pos (by have h := hmo; simp only [moreB, Bool.and_eq_true] at h; exact h.1)]
              have HV := Lib.hid hv
              have HMO := Lib.hid hmo
              clear hv
              go_wp2
              go_quiet ((go_at_call 25; refine Calls.quiet_of (l01MoreV _ _ _ ?_ ?_ ?_ _) <;> assumption))
              rw [HV.out]
              go_wp2
              go_roundw
              case rel =>
                refine ⟨q+1, by omega, by go_num, ?_, fun i hi => ?_, (hB.drewN _).setCell hzw _⟩
                · exact HST.out
                · by_cases e : i < q
                  · exact HOK.out i e
                  · obtain rfl : i = q := by omega
                    rw [HFX.out, HGX.out]; exact HMO.out
              case measure => simp [intOf]; omega
            | false =>
              have HMO := Lib.hid hmo
              go_wp2
              go_quiet ((go_at_call 25; refine Calls.quiet_of (l01MoreV _ _ _ ?_ ?_ ?_ _) <;> assumption))
              go_wp2
              go_ret2
              have e1 : addOf f g k = ([], 3) := by
                unfold addOf
                rw [if_neg (by rw [HW.out, HW'.out]; simp), if_neg (by rw [HK.out]; simp), if_pos]
                rw [List.all_eq_false]
                exact ⟨q, List.mem_range.2 (by rw [HG.out]; exact hlq), by rw [HFX.out, HGX.out, HMO.out]; simp⟩
              rw [e1]
              exact ⟨none, 0, rfl, ⟨by simp, by simp, World.ownsRow_nil _ _ _ _, fun q hq => by simp [Value.ownBlock] at hq⟩, hB.drewN _⟩
          · obtain rfl : q = m := by omega
            have hI : ∀ x ∈ addT f g k N q, I64 x := by
              intro x hx
              simp only [addT, List.mem_map, List.mem_range] at hx
              obtain ⟨i, hi, rfl⟩ := hx
              by_cases e : i < q
              · rw [if_pos e]; exact lim_I64 (moreB_lim (HOK.out i e))
              · rw [if_neg e]; exact lim_I64 (getD_lim HW.out i)
            have hO : OwI w3.heap.size wr.heap.size wr _ (addT f g k N q) := .mk hown (by omega) hI
            have hcap := ownsRow_cap hown
            clear hown hI
            go_wp2_with fail
            refine (l01Trim _ (addT f g k N q) _ hcap hO.rd).mono ?_
            rintro e w5 ⟨a5, c5, rfl, o5, b5⟩
            have hB5 := hB.next b5
            have o6 := o5.lower hB.size
            have e1 : addOf f g k = (trim (addT f g k N q), 0) := by
              unfold addOf
              have : (List.range g.length).all (fun i : Nat => moreB (f.getD i 0) k (g.getD i 0)) = true := by
                rw [List.all_eq_true]
                intro i hi
                exact HOK.out i (by have := List.mem_range.1 hi; rw [HG.out] at this; exact this)
              rw [if_neg (by rw [HW.out, HW'.out]; simp), if_neg (by rw [HK.out]; simp), if_neg (by rw [this]; simp), HF.out, HG.out, ← HN.out]
            have E1 := Lib.hid e1
            clear e1 o5 b5 hO hcap
            go_wp2
            go_ret2
            rw [E1.out]
            exact ⟨a5, c5, rfl, o6, hB5⟩

end Go.Proofs.Ytmccajkndjoooaa
