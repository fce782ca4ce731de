/- PruneGraph of the model. -/
import Derived.Test.YtecobmmlpoaggaaImplPrune
import Derived.Test.YtecobmmlpoaggaaPartRows
set_option linter.unusedSimpArgs false
set_option linter.unusedVariables false
namespace Go.Proofs.Ytecobmmlpoaggaa
open Go.RowKit

theorem low_I64 {v p : Int} (hv : 0 ≤ v) (hp : I64 p) : I64 (low v p) := by unfold low I64 at *; split <;> omega

set_option maxRecDepth 100000 in
set_option maxHeartbeats 6400000 in
theorem l02Prune {lo hi : Nat} (S : Nat) (a : Option Addr) (n c : Nat) (xss : List (List Int)) (w : World) (h : RdR lo hi w (.slice a n c) xss) (hn : xss.length = n) (hg : grB (S : Int) xss = true) :
    Calls Try.prog 86 #[.agg #[.int .i64 (S : Int), .slice a n c]] w fun e w' => ∃ a' c', e = .returned (.agg #[.int .i64 ((prune S xss).1 : Int), .slice a' (prune S xss).2.length c']) ∧ OwR w.heap.size w'.heap.size w' (.slice a' (prune S xss).2.length c') (prune S xss).2 ∧ Below w.heap.size w w' := by
  obtain ⟨j0, hj', y0, y1, y2⟩ := info_parts Try.info45
  have hb0 : ∀ o o', Below w.heap.size w ((w.alloc o).alloc o') := fun o o' => ((Below.refl _ _).alloc (Nat.le_refl _) o).alloc (by simp) o'
  obtain ⟨hs1, hs2, h3, h4⟩ := grB_iff hg
  have hn10 : n ≤ 10 := by omega
  have HN := Lib.hid hn
  have HG := Lib.hid hg
  obtain ⟨s0, hs0⟩ : ∃ s0, s0 = prune S xss := ⟨_, rfl⟩
  rw [← hs0]
  have HS0 := Lib.hid hs0
  clear hn hg h3 h4 hs0
  go_enter Try.func86, Try.ntmps86
  go_wp2_with fail
  refine calls_gen (fun W => Below w.heap.size w W ∧ w.heap.size + 1 < W.heap.size ∧ W.cell? ⟨w.heap.size + 1, 0, none⟩ = some (.int .i64 0) ∧ W.cell? ⟨w.heap.size + 1, 1, none⟩ = some (.slice none 0 0) ∧ W.frozen? ⟨w.heap.size + 1, 0, none⟩ = false ∧ W.frozen? ⟨w.heap.size + 1, 1, none⟩ = false) ⟨hb0 _ _, by simp, by go_simp, by go_simp, by go_simp, by go_simp⟩ ?_
  rintro W ⟨hB, hz, r0, r1, rf0, rf1⟩
  refine (l01Copy _ a n c xss W (h.below hB) HN.out (by omega)).mono ?_
  rw [HN.out]
  rintro e w1 ⟨a1, c1, rfl, o1, b1⟩
  have hP0 := PrI.startC 28 HG.out HS0.out.symm HN.out (Nat.lt_of_lt_of_le hz b1.size) (b1.keep r0) (b1.keep r1) (b1.keepf hz rf0) (b1.keepf hz rf1) (hB.next b1) W.heap.size o1 (by omega)
  have HP0 := Lib.hid hP0
  clear b1 o1 r0 r1 rf0 rf1 hB hP0
  go_wp2
  obtain ⟨X, hX⟩ : ∃ X, X = w1.heap.size := ⟨_, rfl⟩
  rw [← hX] at HP0
  have HX := Lib.hid hX
  rw [← hX]
  clear hX
  go_loopw [4] (fun i wr => ∃ (S' v n' : Nat) (a' : Option Addr) (c' : Nat) (xs' : List (List Int)), i = .int .i64 v ∧ v ≤ S' ∧ Hid (∀ u, u < v → ¬ deg xs' (u : Int) = 1) ∧ PrI w s0 (w.heap.size + 1) X S' n' a' c' xs' wr)
    (fun i wr => 20 * cI (wr.cell? ⟨X, 0, none⟩) + 20 - (intOf i).toNat)
  case atStart => exact ⟨S, 0, n, a1, c1, xss, rfl, Nat.zero_le _, Lib.hid (fun u hu => by omega), by rw [HX.out] at HP0 ⊢; exact HP0.out⟩
  case round =>
    clear HP0
    obtain ⟨S', v, n', a', c', xs', rfl, hv, HU, hP⟩ := hrel
    have hg8 := grB_iff hP.gr
    have hS8 : S' ≤ 8 := by omega
    have hS1 : 1 ≤ S' := by omega
    have hn9 : n' ≤ 10 := by have := hP.len; omega
    clear hg8
    have c0 := hP.c0
    have c1 := hP.c1
    have hm0 : cI (wr.cell? ⟨X, 0, none⟩) = S' := by rw [c0]; simp [cI]
    have HM0 := Lib.hid hm0
    clear hm0
    by_cases hlt : v < S'
    · obtain ⟨lo', hi', o1, o2, o3, o4⟩ := hP.own
      have hrd := o1.rd
      have HCD := Lib.hid (fun W' (h : RdR lo' hi' W' (.slice a' n' c') xs') => l01Degree (S' : Int) (v : Int) a' n' c' xs' W' h hP.gr)
      by_cases hd : deg xs' (v : Int) = 1
      · rw [hd] at HCD
        have hl := leaf_some hlt HU.out hd
        have hcg := cut_gr hP.gr hlt hd
        have hps := prune_some hS1 hl
        have HCG := Lib.hid (⟨hcg, hps⟩ : _ ∧ _)
        clear hcg hps hl hd
        go_wp2_with fail
        refine (HCD.out _ hrd).mono ?_
        rintro e w2 ⟨rfl, b2⟩
        have hP2 := hP.next b2
        have hrd2 := hrd.below b2
        have hXl := hP2.hXl
        have HRD := Lib.hid (hrd2.at hP.len)
        have HGR := Lib.hid (grB_iff hP.gr).2.2.2
        have HLEN := Lib.hid hP.len
        have d0 := hP2.c0
        have d1 := hP2.c1
        have HP2 := Lib.hid hP2
        have hl0 := World.ownsRow_lit (base := w2.heap.size) (e := 45) (size := 1) w2 #[] 0 (Nat.le_refl _) (by unfold maxLen; omega) rfl
        have HL0 := Lib.hid hl0
        have hB2 := (Below.refl w2.heap.size w2).alloc (Nat.le_refl _) (.cells #[] 45)
        clear b2 hl0 o1 hrd hrd2 hP hP2 c0 c1
        have e0 := hB2.keep d1
        have e0' := hB2.keep d0
        go_wp2
        go_loopw [6, 5] (fun i kv wr' => ∃ (j m g cg : Nat) (rvs : List Value), j ≤ n' ∧ i = .int .i64 j ∧ m ≤ j ∧ kv = .slice (some ⟨g, 0, none⟩) m cg ∧ OwP w2.heap.size X wr' g m cg rvs (cutV (v : Int) (xs'.take j)) ∧ Below w2.heap.size w2 wr') (fun i _ _ => n' - (intOf i).toNat)
        case atStart => exact ⟨0, 0, w2.heap.size, 0, [], Nat.zero_le _, rfl, Nat.le_refl _, rfl, OwP.empty HL0.out (by omega), hB2⟩
        case round =>
          rename_i hrel
          clear hB2 e0 e0'
          obtain ⟨j, m, g, cg, rvs, hj, rfl, hmj, rfl, hQ, hb⟩ := hrel
          have x0 := hb.keep d0
          have x1 := hb.keep d1
          by_cases hlj : j < n'
          · have hjx : j < xs'.length := by rw [HLEN.out]; exact hlj
            obtain ⟨b, off, rv, rfl, h1, r1⟩ := HRD.out j hlj
            obtain ⟨q1, q2, q3, q4, q5⟩ := HGR.out j hjx
            obtain ⟨b', off', cap', rfl, h2, h3⟩ := r1.two q1
            replace h1 := hb.keep h1
            replace h2 := hb.keep h2
            replace h3 := hb.keep h3
            have hin := cut_step_in (v := (v : Int)) hjx
            have hout := cut_step_out (v := (v : Int)) hjx
            have hofv : offV (v : Int) (xs'.getD j []) = ((xs'.getD j []).getD 0 0 != (v : Int) && (xs'.getD j []).getD 1 0 != (v : Int)) := rfl
            have hlow : lowE (v : Int) (xs'.getD j []) = [low (v : Int) ((xs'.getD j []).getD 0 0), low (v : Int) ((xs'.getD j []).getD 1 0)] := rfl
            rw [hofv] at hin hout
            rw [hlow] at hin
            generalize (xs'.getD j []).getD 0 0 = p0 at *
            generalize (xs'.getD j []).getD 1 0 = p1 at *
            have hI0 : I64 p0 := by unfold I64; omega
            have hI1 : I64 p1 := by unfold I64; omega
            have HIO := Lib.hid (⟨hin, hout⟩ : _ ∧ _)
            clear hin hout hofv hlow r1 q1
            go_wp2
            go_region_held3 (fun W' => W'.cell? ⟨X, 1, none⟩ = some (.slice (some ⟨b, off, none⟩) n' c') ∧ W'.cell? ⟨b, off + j, none⟩ = some (.slice (some ⟨b', off', none⟩) 2 cap') ∧ W'.cell? ⟨b', off', none⟩ = some (.int .i64 p0) ∧ W'.cell? ⟨b', off' + 1, none⟩ = some (.int .i64 p1))
              (first | (exact ⟨x1, h1, h2, h3⟩) | go_keep) (fail)
            all_goals
              clear h1 h2 h3 x0 x1
              have hqV : Qt wr wr.drew := (Qt.refl wr).drew
              obtain ⟨V, hV⟩ : ∃ V, V = wr.drew := ⟨_, rfl⟩
              rw [← hV] at hqV ⊢
              have hQV := hQ.qt hqV
              have hbV := hb.qt hqV
              have HQ := Lib.hid (⟨hQV, hbV⟩ : _ ∧ _)
              clear hV hQ hb hQV hbV hqV
              by_cases hA : p0 = (v : Int)
              case pos =>
                have hAb : (p0 == (v : Int)) = true := by simpa using hA
                have hst := HIO.out.2 (by simp [hA])
                have HF := Lib.hid (show OwP w2.heap.size X V g m cg rvs (cutV (v : Int) (xs'.take (j + 1))) ∧ Below w2.heap.size w2 V by rw [hst]; exact HQ.out)
                clear hst hA
                go_wp2
                go_roundw
                case rel => exact ⟨j+1, m, g, cg, rvs, by omega, by go_num, by omega, rfl, HF.out⟩
                case measure => simp [intOf]; omega
              by_cases hC : p1 = (v : Int)
              case pos =>
                have hAb : (p0 == (v : Int)) = false := by simpa using hA
                have hCb : (p1 == (v : Int)) = true := by simpa using hC
                have hst := HIO.out.2 (by simp [hC])
                have HF := Lib.hid (show OwP w2.heap.size X V g m cg rvs (cutV (v : Int) (xs'.take (j + 1))) ∧ Below w2.heap.size w2 V by rw [hst]; exact HQ.out)
                clear hst hA hC
                go_wp2
                go_roundw
                case rel => exact ⟨j+1, m, g, cg, rvs, by omega, by go_num, by omega, rfl, HF.out⟩
                case measure => simp [intOf]; omega
              have hAb : (p0 == (v : Int)) = false := by simpa using hA
              have hCb : (p1 == (v : Int)) = false := by simpa using hC
              have hst := HIO.out.1 (by simp [hA, hC])
              have HST := Lib.hid hst
              have hw0 : IntKind.i64.wrap (p0 - 1) = p0 - 1 := IntWalk.i64_in _ (by omega)
              have hw1 : IntKind.i64.wrap (p1 - 1) = p1 - 1 := IntWalk.i64_in _ (by omega)
              have l0 : (↑v < p0 ∧ low (v : Int) p0 = p0 - 1) ∨ (¬ ↑v < p0 ∧ low (v : Int) p0 = p0) := by
                unfold low
                by_cases q : (v : Int) < p0
                · left; exact ⟨q, by rw [if_pos q]⟩
                · right; exact ⟨q, by rw [if_neg q]⟩
              have l1 : (↑v < p1 ∧ low (v : Int) p1 = p1 - 1) ∨ (¬ ↑v < p1 ∧ low (v : Int) p1 = p1) := by
                unfold low
                by_cases q : (v : Int) < p1
                · left; exact ⟨q, by rw [if_pos q]⟩
                · right; exact ⟨q, by rw [if_neg q]⟩
              have hJ0 : I64 (low (v : Int) p0) := low_I64 (by omega) hI0
              have hJ1 : I64 (low (v : Int) p1) := low_I64 (by omega) hI1
              clear hst hA hC
              rcases l0 with ⟨t0, e0⟩ | ⟨t0, e0⟩ <;> rcases l1 with ⟨t1, e1⟩ | ⟨t1, e1⟩
              · rw [e0, e1] at HST
                rw [e0] at hJ0
                rw [e1] at hJ1
                have hrow := OwI.two (lo := V.heap.size) (w := V) hJ0 hJ1 (Nat.le_refl _)
                have hbb : Below V.heap.size V (V.alloc (.cells #[.int .i64 (p0 - 1), .int .i64 (p1 - 1)] 2)) := (Below.refl _ _).alloc (Nat.le_refl _) _
                have hown1 := (HQ.out.1.below hbb).out.alloc (.cells #[.slice (some ⟨V.heap.size, 0, none⟩) 2 2] 45)
                have hnews := news_one (V.alloc (.cells #[.int .i64 (p0 - 1), .int .i64 (p1 - 1)] 2)) 45 (.slice (some ⟨V.heap.size, 0, none⟩) 2 2)
                have hszV := HQ.out.2.size
                clear e0 e1
                go_wp2_with (at_builtin; refine wpList_append_lies _ rfl _ _ 22 rfl w2.heap.size 45 j0 (.slice none 0 0) 1 24 Try.underlying22 hj' y0 y1 y2 rfl (by decide) _ _ _ rfl hown1 ⟨V.heap.size + 1, 0, none⟩ 1 1 [.slice (some ⟨V.heap.size, 0, none⟩) 2 2] rfl rfl ?ck1 ?ck2 (by decide) ?ck3 ?ck4 ?ck5 _ rfl ?_)
                case ck1 => intro i u hi; have := hnews i u hi; simpa using this
                case ck2 => first | (intro u hu; simp at hu; subst hu; rfl) | rfl | simp
                case ck3 => unfold maxLen; omega
                case ck4 => omega
                case ck5 => first | omega | (simp; omega)
                intro g2 c3 w3 hown3 hgr hlie hlt3
                have hQ3 := HQ.out.1.snocF (by omega) hbb hrow hown3 hgr (hlie.imp id (fun e => by rw [e]; simp))
                rw [← HST.out] at hQ3
                have hb3 := (snocC hbb hgr)
                have hB3 := HQ.out.2.chgn hb3 HQ.out.1.lt.1 HQ.out.2.size
                have HF := Lib.hid (⟨hQ3, hB3⟩ : _ ∧ _)
                clear hQ3 hb3 hB3 hown3 hgr hlie hnews hown1 hrow hbb
                go_wp2
                go_roundw
                case rel => exact ⟨j+1, m+1, g2, c3, _, by omega, by go_num, by omega, rfl, HF.out⟩
                case measure => simp [intOf]; omega
              · rw [e0, e1] at HST
                rw [e0] at hJ0
                rw [e1] at hJ1
                have hrow := OwI.two (lo := V.heap.size) (w := V) hJ0 hJ1 (Nat.le_refl _)
                have hbb : Below V.heap.size V (V.alloc (.cells #[.int .i64 (p0 - 1), .int .i64 p1] 2)) := (Below.refl _ _).alloc (Nat.le_refl _) _
                have hown1 := (HQ.out.1.below hbb).out.alloc (.cells #[.slice (some ⟨V.heap.size, 0, none⟩) 2 2] 45)
                have hnews := news_one (V.alloc (.cells #[.int .i64 (p0 - 1), .int .i64 p1] 2)) 45 (.slice (some ⟨V.heap.size, 0, none⟩) 2 2)
                have hszV := HQ.out.2.size
                clear e0 e1
                go_wp2_with (at_builtin; refine wpList_append_lies _ rfl _ _ 22 rfl w2.heap.size 45 j0 (.slice none 0 0) 1 24 Try.underlying22 hj' y0 y1 y2 rfl (by decide) _ _ _ rfl hown1 ⟨V.heap.size + 1, 0, none⟩ 1 1 [.slice (some ⟨V.heap.size, 0, none⟩) 2 2] rfl rfl ?cl1 ?cl2 (by decide) ?cl3 ?cl4 ?cl5 _ rfl ?_)
                case cl2 => first | (intro u hu; simp at hu; subst hu; rfl) | rfl | simp
                case cl3 => unfold maxLen; omega
                case cl4 => omega
                case cl5 => first | omega | (simp; omega)
                intro g2 c3 w3 hown3 hgr hlie hlt3
                have hQ3 := HQ.out.1.snocF (by omega) hbb hrow hown3 hgr (hlie.imp id (fun e => by rw [e]; simp))
                rw [← HST.out] at hQ3
                have hb3 := (snocC hbb hgr)
                have hB3 := HQ.out.2.chgn hb3 HQ.out.1.lt.1 HQ.out.2.size
                have HF := Lib.hid (⟨hQ3, hB3⟩ : _ ∧ _)
                clear hQ3 hb3 hB3 hown3 hgr hlie hnews hown1 hrow hbb
                go_wp2
                go_roundw
                case rel => exact ⟨j+1, m+1, g2, c3, _, by omega, by go_num, by omega, rfl, HF.out⟩
                case measure => simp [intOf]; omega
              · rw [e0, e1] at HST
                rw [e0] at hJ0
                rw [e1] at hJ1
                have hrow := OwI.two (lo := V.heap.size) (w := V) hJ0 hJ1 (Nat.le_refl _)
                have hbb : Below V.heap.size V (V.alloc (.cells #[.int .i64 p0, .int .i64 (p1 - 1)] 2)) := (Below.refl _ _).alloc (Nat.le_refl _) _
                have hown1 := (HQ.out.1.below hbb).out.alloc (.cells #[.slice (some ⟨V.heap.size, 0, none⟩) 2 2] 45)
                have hnews := news_one (V.alloc (.cells #[.int .i64 p0, .int .i64 (p1 - 1)] 2)) 45 (.slice (some ⟨V.heap.size, 0, none⟩) 2 2)
                have hszV := HQ.out.2.size
                clear e0 e1
                go_wp2_with (at_builtin; refine wpList_append_lies _ rfl _ _ 22 rfl w2.heap.size 45 j0 (.slice none 0 0) 1 24 Try.underlying22 hj' y0 y1 y2 rfl (by decide) _ _ _ rfl hown1 ⟨V.heap.size + 1, 0, none⟩ 1 1 [.slice (some ⟨V.heap.size, 0, none⟩) 2 2] rfl rfl ?cm1 ?cm2 (by decide) ?cm3 ?cm4 ?cm5 _ rfl ?_)
                case cm2 => first | (intro u hu; simp at hu; subst hu; rfl) | rfl | simp
                case cm3 => unfold maxLen; omega
                case cm4 => omega
                case cm5 => first | omega | (simp; omega)
                intro g2 c3 w3 hown3 hgr hlie hlt3
                have hQ3 := HQ.out.1.snocF (by omega) hbb hrow hown3 hgr (hlie.imp id (fun e => by rw [e]; simp))
                rw [← HST.out] at hQ3
                have hb3 := (snocC hbb hgr)
                have hB3 := HQ.out.2.chgn hb3 HQ.out.1.lt.1 HQ.out.2.size
                have HF := Lib.hid (⟨hQ3, hB3⟩ : _ ∧ _)
                clear hQ3 hb3 hB3 hown3 hgr hlie hnews hown1 hrow hbb
                go_wp2
                go_roundw
                case rel => exact ⟨j+1, m+1, g2, c3, _, by omega, by go_num, by omega, rfl, HF.out⟩
                case measure => simp [intOf]; omega
              · rw [e0, e1] at HST
                rw [e0] at hJ0
                rw [e1] at hJ1
                have hrow := OwI.two (lo := V.heap.size) (w := V) hJ0 hJ1 (Nat.le_refl _)
                have hbb : Below V.heap.size V (V.alloc (.cells #[.int .i64 p0, .int .i64 p1] 2)) := (Below.refl _ _).alloc (Nat.le_refl _) _
                have hown1 := (HQ.out.1.below hbb).out.alloc (.cells #[.slice (some ⟨V.heap.size, 0, none⟩) 2 2] 45)
                have hnews := news_one (V.alloc (.cells #[.int .i64 p0, .int .i64 p1] 2)) 45 (.slice (some ⟨V.heap.size, 0, none⟩) 2 2)
                have hszV := HQ.out.2.size
                clear e0 e1
                go_wp2_with (at_builtin; refine wpList_append_lies _ rfl _ _ 22 rfl w2.heap.size 45 j0 (.slice none 0 0) 1 24 Try.underlying22 hj' y0 y1 y2 rfl (by decide) _ _ _ rfl hown1 ⟨V.heap.size + 1, 0, none⟩ 1 1 [.slice (some ⟨V.heap.size, 0, none⟩) 2 2] rfl rfl ?cn1 ?cn2 (by decide) ?cn3 ?cn4 ?cn5 _ rfl ?_)
                case cn2 => first | (intro u hu; simp at hu; subst hu; rfl) | rfl | simp
                case cn3 => unfold maxLen; omega
                case cn4 => omega
                case cn5 => first | omega | (simp; omega)
                intro g2 c3 w3 hown3 hgr hlie hlt3
                have hQ3 := HQ.out.1.snocF (by omega) hbb hrow hown3 hgr (hlie.imp id (fun e => by rw [e]; simp))
                rw [← HST.out] at hQ3
                have hb3 := (snocC hbb hgr)
                have hB3 := HQ.out.2.chgn hb3 HQ.out.1.lt.1 HQ.out.2.size
                have HF := Lib.hid (⟨hQ3, hB3⟩ : _ ∧ _)
                clear hQ3 hb3 hB3 hown3 hgr hlie hnews hown1 hrow hbb
                go_wp2
                go_roundw
                case rel => exact ⟨j+1, m+1, g2, c3, _, by omega, by go_num, by omega, rfl, HF.out⟩
                case measure => simp [intOf]; omega
          · obtain rfl : j = n' := by omega
            have e2 : xs'.take j = xs' := List.take_of_length_le (by rw [HLEN.out]; exact Nat.le_refl _)
            rw [e2] at hQ
            have hml := hQ.len
            have hO := hQ.owr' (by omega)
            have hP3 := HP2.out.next hb
            have hcut := hP3.cut (a3 := some ⟨g, 0, none⟩) (c3 := cg) (xs3 := cutV (v : Int) xs') (S3 := S' - 1) HCG.out.1.2 (by rw [← HCG.out.2]; exact hP3.pr) w2.heap.size wr.heap.size hO (Nat.le_refl _) hXl
            rw [hml] at hcut
            have f0 := hP3.f0
            have f1 := hP3.f1
            have eS : ((S' : Int) - 1) = ((S' - 1 : Nat) : Int) := by omega
            have hsw : IntKind.i64.wrap ((S' - 1 : Nat) : Int) = ((S' - 1 : Nat) : Int) := IntWalk.i64_in _ (by omega)
            have hm1 := hcut.c0
            have HF := Lib.hid (⟨hcut, hm1⟩ : _ ∧ _)
            clear hQ hO hP3 hcut hb hml e2 hm1
            go_wp2
            go_roundw
            case rel => exact ⟨S' - 1, 0, m, _, _, _, rfl, Nat.zero_le _, Lib.hid (fun u hu => by omega), HF.out.1⟩
            case measure =>
              have q := HF.out.2
              rw [HM0.out]
              rw [q]
              simp [cI, intOf]
              omega
      · have hdb : (deg xs' (v : Int) != 1) = true := by simpa using hd
        have hUn : Hid (∀ u, u < v + 1 → ¬ deg xs' (u : Int) = 1) := Lib.hid (fun u hu => by
          by_cases e : u < v
          · exact HU.out u e
          · obtain rfl : u = v := by omega
            exact hd)
        generalize deg xs' (v : Int) = dg at *
        clear hd
        go_wp2_with fail
        refine (HCD.out _ hrd).mono ?_
        rintro e w2 ⟨rfl, b2⟩
        have hP2 := hP.next b2
        have hm2 := hP2.c0
        have HF := Lib.hid (⟨hP2, hm2⟩ : _ ∧ _)
        clear b2 hP2 o1 hrd c0 c1 hP hm2
        go_wp2
        go_roundw
        case rel => exact ⟨S', v + 1, n', a', c', xs', by go_num, by omega, hUn, HF.out.1⟩
        case measure =>
          rw [HM0.out, HF.out.2]
          simp [cI, intOf]
          omega
    · have hpn := prune_none hS1 (leaf_none (fun u hu => HU.out u (by omega)))
      have hpr := hP.pr
      rw [hpn] at hpr
      subst hpr
      have r0 := hP.r0
      have r1 := hP.r1
      have rf0 := hP.rf0
      have rf1 := hP.rf1
      have hRX : ¬ w.heap.size + 1 = X := by have := hP.hX; omega
      have hRX' : ¬ X = w.heap.size + 1 := fun e => hRX e.symm
      obtain ⟨lo', hi', o1, o2, o3, o4⟩ := hP.own
      have hRl : w.heap.size + 1 < wr.heap.size := Nat.lt_trans hP.hX hP.hXl
      have HH := Lib.hid (⟨o1, hP.below, hP.len⟩ : _ ∧ _ ∧ _)
      have hlen := hP.len
      clear hP o1 hpn HS0
      go_wp2
      refine bodyPost_ret (v := .agg #[.int .i64 (S' : Int), .slice a' n' c']) (by simp [results, Try.results86, go_sem, r0, r1]) rfl ⟨a', c', rfl, ?_, ?_⟩
      · have o1 := HH.out.1
        refine (OwR.chg (lo' := w.heap.size + 1) (hi' := w.heap.size + 1 + 1) o1 ?_ (.inr o2)).mono (by omega) (by simp only [World.setCell] <;> simp <;> omega)
        exact ((Chg.refl (w.heap.size + 1) (w.heap.size + 1 + 1) _).setCell (by constructor <;> simp) _).setCell (by constructor <;> simp) _
      · repeat (refine Below.setCell ?_ (by simp <;> omega) _)
        exact HH.out.2.1

end Go.Proofs.Ytecobmmlpoaggaa
