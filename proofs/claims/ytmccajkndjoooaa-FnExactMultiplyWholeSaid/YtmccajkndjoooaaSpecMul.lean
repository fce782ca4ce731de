/- MultiplyWhole of the model. -/
import Derived.Test.YtmccajkndjoooaaMulPure
set_option linter.unusedSimpArgs false
set_option linter.unusedVariables false
namespace Go.Proofs.Ytmccajkndjoooaa
open Go.RowKit

def prodOf (f g : List Int) : List Int × Bool :=
  if f.length = 0 ∨ g.length = 0 then ([], true) else if 40 < f.length + g.length - 1 then ([], false) else if (sumsO f g).all (fun o => !o.isNone) = false then ([], false) else (trim ((sumsO f g).map numO), true)
def prodL (f g : List Int) (k : Nat) : List Int := ((sumsO f g).take k).map numO
theorem prodL_succ {f g : List Int} {k : Nat} (h : k < f.length + g.length - 1) : prodL f g (k+1) = prodL f g k ++ [numO (accO f g k f.length)] := by
  unfold prodL
  rw [List.take_add_one, List.getElem?_eq_getElem (by rw [sumsO_len]; exact h), List.map_append]
  simp [sumsO]
theorem prodL_all (f g : List Int) : prodL f g (f.length + g.length - 1) = (sumsO f g).map numO := by
  unfold prodL; rw [List.take_of_length_le (by rw [sumsO_len]; exact Nat.le_refl _)]
theorem prod_fail {f g : List Int} {k : Nat} (h0 : ¬ (f.length = 0 ∨ g.length = 0)) (hk : k < f.length + g.length - 1) (h : accO f g k f.length = none) : prodOf f g = ([], false) := by
  unfold prodOf
  rw [if_neg h0]
  split
  · rfl
  · rw [if_pos]
    rw [List.all_eq_false]
    exact ⟨none, by simp only [sumsO, List.mem_map, List.mem_range]; exact ⟨k, hk, h⟩, by simp⟩
theorem prod_good {f g : List Int} (h0 : ¬ (f.length = 0 ∨ g.length = 0)) (hL : ¬ 40 < f.length + g.length - 1) (h : ∀ p, p < f.length + g.length - 1 → (accO f g p f.length).isNone = false) : prodOf f g = (trim ((sumsO f g).map numO), true) := by
  unfold prodOf
  rw [if_neg h0, if_neg hL, if_neg]
  have : (sumsO f g).all (fun o => !o.isNone) = true := by
    rw [List.all_eq_true]
    intro o ho
    simp only [sumsO, List.mem_map, List.mem_range] at ho
    obtain ⟨p, hp, rfl⟩ := ho
    rw [h p hp]; rfl
  rw [this]; simp

set_option maxHeartbeats 3200000 in
theorem l01Product_ne (n m b off c b' off' c' : Nat) (f g : List Int) (w : World) (hn : f.length = n) (hm : g.length = m) (h0 : 0 < n) (h0' : 0 < m) (hn1 : n ≤ 40) (hm1 : m ≤ 40)
    (hlf : ∀ j, j < n → Lim (f.getD j 0)) (hlg : ∀ j, j < m → Lim (g.getD j 0))
    (hc : ∀ j, j < n → w.cell? ⟨b, off + j, none⟩ = some (.int .i64 (f.getD j 0))) (hc' : ∀ j, j < m → w.cell? ⟨b', off' + j, none⟩ = some (.int .i64 (g.getD j 0))) :
    Calls Try.prog 31 #[.slice (some ⟨b, off, none⟩) n c, .slice (some ⟨b', off', none⟩) m c'] w fun e w' => ∃ a d, e = .returned (.tuple #[.slice a (prodOf f g).1.length d, .bool (prodOf f g).2]) ∧ OwI w.heap.size w'.heap.size w' (.slice a (prodOf f g).1.length d) (prodOf f g).1 ∧ Below w.heap.size w w' := by
  obtain ⟨i0, hi', z0, z1, z2⟩ := info_parts Try.info2
  have hnot : ¬ (f.length = 0 ∨ g.length = 0) := by omega
  obtain ⟨N, hN⟩ : ∃ N, N = n + m - 1 := ⟨_, rfl⟩
  have hNN : n + m - 1 = N := hN.symm
  have hNI : (n : Int) + (m : Int) - 1 = (N : Int) := by omega
  have hNL : f.length + g.length - 1 = N := by omega
  have HN := Lib.hid hn
  have HM := Lib.hid hm
  have HC := Lib.hid hc
  have HC' := Lib.hid hc'
  have HLF := Lib.hid hlf
  have HLG := Lib.hid hlg
  have HNOT := Lib.hid hnot
  have HNL := Lib.hid hNL
  have hnz : ((n : Int) == 0) = false := by simp; omega
  have hmz : ((m : Int) == 0) = false := by simp; omega
  clear hn hm hc hc' hlf hlg hnot hN hNL
  by_cases hL : 40 < N
  · go_enter Try.func31, Try.ntmps31
    go_wp2
    go_ret2
    have e1 : prodOf f g = ([], false) := by unfold prodOf; rw [if_neg HNOT.out, if_pos (by rw [HNL.out]; exact hL)]
    rw [e1]
    exact ⟨none, 0, rfl, OwI.mk (World.ownsRow_nil _ _ _ _) (by simp) (by simp), (Below.refl _ _).alloc (Nat.le_refl _) _⟩
  · go_enter Try.func31, Try.ntmps31
    go_wp2
    go_loopw [7, 6] (fun i v wr => ∃ k : Nat, k ≤ N ∧ i = .int .i64 k ∧ wr.ownsRow w.heap.size 2 1 v k ((prodL f g k).map (Value.int .i64)) ∧ Hid (∀ p, p < k → (accO f g p n).isNone = false) ∧ Below w.heap.size w wr) (fun i _ _ => N - (intOf i).toNat)
    case atStart => exact ⟨0, Nat.zero_le _, rfl, World.ownsRow_lit w #[] 0 (Nat.le_refl _) (by unfold maxLen; omega) rfl, Lib.hid (fun p hp => by omega), (Below.refl _ _).alloc (Nat.le_refl _) _⟩
    case round =>
      obtain ⟨k, hk, rfl, hown, HOK, hB⟩ := hrel
      by_cases hlt : k < N
      · go_wp2
        go_loopw [9, 8] (fun i s wr' => ∃ (q : Nat) (x : Int), q ≤ k + 1 ∧ q ≤ n ∧ i = .int .i64 q ∧ s = .int .i64 x ∧ Hid (accO f g k q = some x) ∧ Qt wr wr') (fun i _ _ => n - (intOf i).toNat)
        case atStart => exact ⟨0, 0, Nat.zero_le _, Nat.zero_le _, rfl, rfl, Lib.hid rfl, Qt.refl _⟩
        case round =>
          rename_i hrel
          obtain ⟨q, x, hq1, hq2, rfl, rfl, HA, hQ⟩ := hrel
          by_cases hin : q ≤ k ∧ q < n
          · obtain ⟨hqk, hqn⟩ := hin
            have hBr := hB.qt hQ
            have hsub0 : (0 : Int) ≤ (k : Int) - (q : Int) := by omega
            have hsub1 : ((k : Int) - (q : Int)).toNat = k - q := by omega
            by_cases hqm : k - q < m
            · have hsub2 : (k : Int) - (q : Int) < (m : Int) := by omega
              have h1 := hBr.keep (HC.out q hqn)
              have h2 := hBr.keep (HC'.out (k - q) hqm)
              have hla := HLF.out q hqn
              have hlb := HLG.out (k - q) hqm
              have hls : Lim x := by have := accO_lim f g k q; rw [HA.out] at this; exact this.num
              have hst := accO_succ f g k q
              rw [if_pos ⟨hqk, by rw [HM.out]; exact hqm⟩, HA.out, plus_prod] at hst
              generalize f.getD q 0 = y at *
              generalize g.getD (k - q) 0 = z at *
              have HST := Lib.hid hst
              clear hst
              cases hmo : moreB x y z with
              | true =>
                have hv : moreV x y z = x + y * z := by unfold moreV; rw [if_pos (by have h := hmo; simp only [moreB, Bool.and_eq_true] at h; exact h.1)]
                have HV := Lib.hid hv
                have HMO := Lib.hid hmo
                clear hv
                go_wp2
                go_quiet ((go_at_call 25; refine Calls.quiet_of (l01MoreV _ _ _ ?_ ?_ ?_ _) <;> assumption))
                rw [HV.out]
                go_wp2
                go_roundw
                case rel => exact ⟨q+1, x + y * z, by omega, by omega, by go_num, rfl, Lib.hid (by rw [HST.out, HMO.out]; rfl), hQ.drewN _⟩
                case measure => simp [intOf]; omega
              | false =>
                have HMO := Lib.hid hmo
                go_wp2
                go_quiet ((go_at_call 25; refine Calls.quiet_of (l01MoreV _ _ _ ?_ ?_ ?_ _) <;> assumption))
                go_wp2
                go_ret2
                have e1 : prodOf f g = ([], false) := prod_fail HNOT.out (k := k) (by rw [HNL.out]; exact hlt) (accO_none (i := q + 1) (by rw [HST.out, HMO.out]; rfl) _ (by rw [HN.out]; omega))
                rw [e1]
                exact ⟨none, 0, rfl, OwI.mk (World.ownsRow_nil _ _ _ _) (by simp) (by simp), hBr.drewN _⟩
            · have hsub2 : (m : Int) ≤ (k : Int) - (q : Int) := by omega
              have hst := accO_succ f g k q
              rw [if_neg (by rw [HM.out]; omega), HA.out] at hst
              have HST := Lib.hid hst
              clear hst
              go_wp2
              go_roundw
              case rel => exact ⟨q+1, x, by omega, by omega, by go_num, rfl, HST, hQ⟩
              case measure => simp [intOf]; omega
          · have hfin : accO f g k n = some x := by
              by_cases e : q = n
              · rw [← e]; exact HA.out
              · rw [accO_stop (i := q) (by omega) n hq2]; exact HA.out
            have hls : Lim x := by have := accO_lim f g k q; rw [HA.out] at this; exact this.num
            have hBr := hB.qt hQ
            obtain ⟨md, rfl⟩ := hQ
            have hown1 := ownsRow_chg hown (((Qt.refl wr).drewN md).chg 0 0) (fun _ _ => .inr (Nat.zero_le _))
            have hcase : (q = k + 1) ∨ (q ≤ k ∧ q = n) := by omega
            have e1 := prodL_succ (f := f) (g := g) (k := k) (by rw [HNL.out]; exact hlt)
            rw [HN.out, hfin] at e1
            have E1 := Lib.hid e1
            have HFIN := Lib.hid hfin
            clear e1 hfin hin
            rcases hcase with rfl | ⟨hqk, rfl⟩
            all_goals
              go_wp2_with (at_builtin; refine wpList_append_own _ rfl _ _ 22 rfl w.heap.size 2 i0 (.int .i64 0) 1 8 Try.underlying22 hi' z0 z1 z2 rfl (by decide) _ _ _ rfl (hown1.alloc _) ⟨wr.heap.size, 0, none⟩ 1 1 [.int .i64 x] rfl rfl ?c1 ?c2 ?c3 ?c4 ?c5 ?_)
              case c1 =>
                intro j u hj
                have hj2 := news_one (wr.drewN md) 2 (.int .i64 x) j u hj
                have e0 : j = 0 := by
                  have := (List.getElem?_eq_some_iff.1 hj).1
                  simp only [List.length_cons, List.length_nil] at this; omega
                subst e0
                exact hj2
              case c2 =>
                first | (intro u hu; simp at hu; subst hu; rfl) | rfl | simp | skip
              case c3 => unfold maxLen; omega
              case c4 => omega
              case c5 => have := hB.size; simp; omega
              intro v3 w3 hown3 hgr _
              obtain ⟨hB3, hz3, _, _⟩ := grown_own hBr hown1 (Nat.le_refl _) hgr
              have e3 : (prodL f g k).map (Value.int .i64) ++ [Value.int .i64 x] = (prodL f g (k+1)).map (Value.int .i64) := by rw [E1.out]; simp [numO]
              rw [e3] at hown3
              clear hgr hown hown1 e3
              go_wp2
              go_roundw
              case rel => exact ⟨k+1, by omega, by go_num, hown3, Lib.hid (fun p hp => by
                by_cases e : p < k
                · exact HOK.out p e
                · obtain rfl : p = k := by omega
                  rw [HFIN.out]; rfl), hB3⟩
              case measure => simp [intOf]; omega
      · obtain rfl : k = N := by omega
        have hI : ∀ x ∈ prodL f g k, I64 x := by
          rw [← HNL.out, prodL_all]; exact sums_I64
        have hO : OwI w.heap.size wr.heap.size wr _ (prodL f g k) := .mk hown (by omega) hI
        have hcap := ownsRow_cap hown
        have e1 : prodOf f g = (trim (prodL f g k), true) := by
          rw [prod_good HNOT.out (by rw [HNL.out]; exact hL) (fun p hp => by rw [HN.out]; exact HOK.out p (by rw [← HNL.out]; exact hp)), ← HNL.out, prodL_all]
        have E1 := Lib.hid e1
        clear hown hI e1
        go_wp2_with fail
        refine (l01Trim _ (prodL f g k) _ hcap hO.rd).mono ?_
        rintro e w5 ⟨a5, c5, rfl, o5, b5⟩
        have hB5 := hB.next b5
        have o6 := o5.lower hB.size
        clear o5 b5 hO hcap
        go_wp2
        go_ret2
        rw [E1.out]
        exact ⟨a5, c5, rfl, o6, hB5⟩

theorem l01Product_nil (a a' : Option Addr) (n m c c' : Nat) (f g : List Int) (h : f.length = 0 ∨ g.length = 0) (w : World) (hn : f.length = n) (hm : g.length = m) (hn1 : n ≤ 1000) (hm1 : m ≤ 1000) :
    Calls Try.prog 31 #[.slice a n c, .slice a' m c'] w fun e w' => ∃ a d, e = .returned (.tuple #[.slice a (prodOf f g).1.length d, .bool (prodOf f g).2]) ∧ OwI w.heap.size w'.heap.size w' (.slice a (prodOf f g).1.length d) (prodOf f g).1 ∧ Below w.heap.size w w' := by
  have e1 : prodOf f g = ([], true) := by unfold prodOf; rw [if_pos h]
  rw [e1]
  have ho : OwI w.heap.size (w.alloc (.cells #[] 2)).heap.size (w.alloc (.cells #[] 2)) (.slice (some ⟨w.heap.size, 0, none⟩) 0 0) [] := .mk (n := 0) (World.ownsRow_lit w #[] 0 (Nat.le_refl _) (by unfold maxLen; omega) rfl) (by omega) (by simp)
  have hb : Below w.heap.size w (w.alloc (.cells #[] 2)) := (Below.refl w.heap.size w).alloc (Nat.le_refl _) _
  by_cases h0 : n = 0
  · subst h0
    go_enter Try.func31, Try.ntmps31
    go_wp2
    go_ret2
    exact ⟨_, _, rfl, ho, hb⟩
  · have h1 : m = 0 := by omega
    have hnz : ((n : Int) == 0) = false := by simp; omega
    subst h1
    go_enter Try.func31, Try.ntmps31
    go_wp2
    go_ret2
    exact ⟨_, _, rfl, ho, hb⟩

theorem l01Product {lo hi lo' hi' : Nat} (a : Option Addr) (n c : Nat) (f : List Int) (a' : Option Addr) (m c' : Nat) (g : List Int) (w : World) (hf : RdI lo hi w (.slice a n c) f) (hn : f.length = n) (hg : RdI lo' hi' w (.slice a' m c') g) (hm : g.length = m) (hw : wholeB f = true) (hw' : wholeB g = true) :
    Calls Try.prog 31 #[.slice a n c, .slice a' m c'] w fun e w' => ∃ a d, e = .returned (.tuple #[.slice a (prodOf f g).1.length d, .bool (prodOf f g).2]) ∧ OwI w.heap.size w'.heap.size w' (.slice a (prodOf f g).1.length d) (prodOf f g).1 ∧ Below w.heap.size w w' := by
  have hlf := wholeB_lim hw
  have hlg := wholeB_lim hw'
  by_cases h : f.length = 0 ∨ g.length = 0
  · exact l01Product_nil a a' n m c c' f g h w hn hm (by omega) (by omega)
  · obtain ⟨_, _, ⟨_, _, hx, _⟩ | ⟨b, off, cap, hv, _, _, _, hc⟩⟩ := hf
    · rw [hx] at h; simp at h
    · obtain ⟨_, _, ⟨_, _, hx, _⟩ | ⟨b', off', cap', hv', _, _, _, hc'⟩⟩ := hg
      · rw [hx] at h; simp at h
      · simp only [Value.slice.injEq] at hv hv'
        obtain ⟨rfl, _, rfl⟩ := hv
        obtain ⟨rfl, _, rfl⟩ := hv'
        subst hn hm
        exact l01Product_ne _ _ b off _ b' off' _ f g w rfl rfl (by omega) (by omega) hlf.1 hlg.1 hlf.2 hlg.2 hc hc'

theorem specMul_bad {lo hi lo' hi' : Nat} (v v' : Value) (f g : List Int) (w : World) (hf : RdI lo hi w v f) (hg : RdI lo' hi' w v' g) (hw : (wholeB f && wholeB g) = false) :
    Calls Try.prog 16 #[v, v'] w fun e w' => e = .returned (.tuple #[.slice none 0 0, .int .i64 1]) ∧ Qt w w' := by
  cases h1 : wholeB f with
  | false =>
    have HW := Lib.hid h1
    clear h1 hw
    go_enter Try.func16, Try.ntmps16
    go_wp2_with fail
    refine (l01Poly _ f _ hf).mono ?_
    rw [HW.out]
    rintro e w1 ⟨rfl, q1⟩
    go_wp2
    go_ret2
    exact ⟨rfl, q1⟩
  | true =>
    have h2 : wholeB g = false := by rw [h1] at hw; simpa using hw
    have HW := Lib.hid h1
    have HW' := Lib.hid h2
    clear h1 h2 hw
    go_enter Try.func16, Try.ntmps16
    go_wp2_with fail
    refine (l01Poly _ f _ hf).mono ?_
    rw [HW.out]
    rintro e w1 ⟨rfl, q1⟩
    go_wp2_with fail
    refine (l01Poly _ g _ (hg.qt q1)).mono ?_
    rw [HW'.out]
    rintro e w2 ⟨rfl, q2⟩
    have hq := q1.trans q2
    go_wp2
    go_ret2
    exact ⟨rfl, hq⟩

theorem mul_prod {f g : List Int} (hw : wholeB f = true) (hw' : wholeB g = true) : mulOf f g = if (prodOf f g).2 = true then ((prodOf f g).1, 0) else ([], 3) := by
  unfold mulOf prodOf
  rw [if_neg (by rw [hw, hw']; simp)]
  repeat' split
  all_goals simp_all

theorem specMulL {lo hi lo' hi' : Nat} (a : Option Addr) (n c : Nat) (f : List Int) (a' : Option Addr) (n' c' : Nat) (g : List Int) (w : World) (hf : RdI lo hi w (.slice a n c) f) (hn : f.length = n) (hg : RdI lo' hi' w (.slice a' n' c') g) (hn' : g.length = n') :
    Calls Try.prog 16 #[.slice a n c, .slice a' n' c'] w fun e w' => ∃ a c, e = .returned (.tuple #[.slice a (mulOf f g).1.length c, .int .i64 (mulOf f g).2]) ∧ OwI w.heap.size w'.heap.size w' (.slice a (mulOf f g).1.length c) (mulOf f g).1 ∧ Below w.heap.size w w' := by
  cases h : (wholeB f && wholeB g) with
  | false =>
    have e1 : mulOf f g = ([], 1) := by unfold mulOf; rw [if_pos h]
    rw [e1]
    exact (specMul_bad _ _ f g w hf hg h).mono fun e w' ⟨he, hq⟩ => ⟨none, 0, he, OwI.mk (World.ownsRow_nil _ _ _ _) (by simp) (by simp), hq.below⟩
  | true =>
    simp only [Bool.and_eq_true] at h
    obtain ⟨hw, hw'⟩ := h
    rw [mul_prod hw hw']
    have HW := Lib.hid hw
    have HW' := Lib.hid hw'
    have HN := Lib.hid hn
    have HN' := Lib.hid hn'
    clear hw hw' hn hn'
    obtain ⟨P, hP⟩ : ∃ P, P = prodOf f g := ⟨_, rfl⟩
    have HP := Lib.hid hP
    rw [← hP]
    clear hP
    obtain ⟨ys, ok⟩ := P
    cases ok with
    | true =>
      go_enter Try.func16, Try.ntmps16
      go_wp2_with fail
      refine (l01Poly _ f _ hf).mono ?_
      rw [HW.out]
      rintro e w1 ⟨rfl, q1⟩
      go_wp2_with fail
      refine (l01Poly _ g _ (hg.qt q1)).mono ?_
      rw [HW'.out]
      rintro e w2 ⟨rfl, q2⟩
      have hB := (q1.trans q2).below
      go_wp2_with fail
      refine (l01Product a n c f a' n' c' g _ (hf.below hB) HN.out (hg.below hB) HN'.out HW.out HW'.out).mono ?_
      rw [← HP.out]
      rintro e w3 ⟨a3, d3, rfl, o3, b3⟩
      have o4 := o3.lower hB.size
      have hB3 := hB.next b3
      clear o3 b3 hB q1 q2
      go_wp2
      go_ret2
      exact ⟨a3, d3, rfl, o4, hB3⟩
    | false =>
      go_enter Try.func16, Try.ntmps16
      go_wp2_with fail
      refine (l01Poly _ f _ hf).mono ?_
      rw [HW.out]
      rintro e w1 ⟨rfl, q1⟩
      go_wp2_with fail
      refine (l01Poly _ g _ (hg.qt q1)).mono ?_
      rw [HW'.out]
      rintro e w2 ⟨rfl, q2⟩
      have hB := (q1.trans q2).below
      go_wp2_with fail
      refine (l01Product a n c f a' n' c' g _ (hf.below hB) HN.out (hg.below hB) HN'.out HW.out HW'.out).mono ?_
      rw [← HP.out]
      rintro e w3 ⟨a3, d3, rfl, o3, b3⟩
      have hB3 := hB.next b3
      clear o3 b3 hB q1 q2
      go_wp2
      go_ret2
      exact ⟨none, 0, rfl, OwI.mk (World.ownsRow_nil _ _ _ _) (by simp) (by simp), hB3⟩

end Go.Proofs.Ytmccajkndjoooaa
