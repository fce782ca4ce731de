/- The first vertices of the parts: the program. -/
import Derived.Test.YtecobmmlpoaggaaParts
import Derived.Test.YtecobmmlpoaggaaConPure
import Derived.Deep.RegionHeld3
set_option linter.unusedSimpArgs false
set_option linter.unusedVariables false
namespace Go.Proofs.Ytecobmmlpoaggaa
open Go.RowKit

def zs (L : List Nat) : List Int := L.map (fun n : Nat => (n : Int))
theorem zs_len (L : List Nat) : (zs L).length = L.length := by simp [zs]
theorem zs_get {L : List Nat} {v : Nat} (h : v < L.length) : (zs L).getD v 0 = (lab L v : Int) := by simp [zs, lab, List.getD, List.getElem?_eq_getElem h]
theorem zs_set (L : List Nat) (k m : Nat) : (zs L).set k (m : Int) = zs (L.set k m) := by simp [zs, List.map_set]
def vz (L : List Nat) : List Value := (zs L).map (Value.int .i64)
theorem vz_len (L : List Nat) : (vz L).length = L.length := by simp [vz, zs]
theorem vz_get {L : List Nat} {v : Nat} (h : v < L.length) : (vz L)[v]? = some (.int .i64 (lab L v : Int)) := by simp [vz, zs, lab, List.getD, List.getElem?_eq_getElem h]
theorem vz_set (L : List Nat) (k m : Nat) : (vz L).set k (.int .i64 (m : Int)) = vz (L.set k m) := by simp [vz, zs, List.map_set]
def nE (xss : List (List Int)) : List (Nat × Nat) := (pairs xss).map (fun e => (e.1.toNat, e.2.toNat))
theorem nE_len (xss : List (List Int)) : (nE xss).length = xss.length := by simp [nE, pairs]
theorem nE_get {s : Int} {xss : List (List Int)} (h : grB s xss = true) {k : Nat} (hk : k < xss.length) : ((nE xss).getD k (0, 0)).1 = ((pairs xss).getD k (0, 0)).1.toNat ∧ ((nE xss).getD k (0, 0)).2 = ((pairs xss).getD k (0, 0)).2.toNat := by
  have : k < (pairs xss).length := by rw [pairs_len]; exact hk
  simp [nE, List.getD, List.getElem?_eq_getElem this]
theorem nE_in {s : Nat} {xss : List (List Int)} (h : grB (s : Int) xss = true) : ∀ e ∈ nE xss, e.1 < s ∧ e.2 < s := by
  intro e he
  simp only [nE, pairs, List.map_map, List.mem_map] at he
  obtain ⟨r, hr, rfl⟩ := he
  obtain ⟨i, hi, rfl⟩ := List.getElem_of_mem hr
  have := (grB_iff h).2.2.2 i hi
  have e1 : xss.getD i [] = xss[i] := by simp [List.getD, List.getElem?_eq_getElem hi]
  rw [e1] at this
  simp only [Function.comp]
  omega
theorem relax_comm (L : List Nat) (a b m : Nat) : (L.set b m).set a m = (L.set a m).set b m := by
  by_cases h : a = b
  · rw [h]
  · exact List.set_comm _ _ (fun e => h e.symm)

theorem fold_snoc {α β : Type} (f : β → α → β) (l : List α) (b : β) (k : Nat) (d : α) (h : k < l.length) : (l.take (k+1)).foldl f b = f ((l.take k).foldl f b) (l.getD k d) := by
  rw [List.take_add_one, List.getElem?_eq_getElem h, List.foldl_append]
  simp [List.getD, List.getElem?_eq_getElem h]

theorem relax_len (F : List Nat) (e : Nat × Nat) : (relaxN F e).length = F.length := by simp [relaxN]
theorem foldr_len : ∀ (es : List (Nat × Nat)) (F : List Nat), (es.foldl relaxN F).length = F.length
  | [], F => rfl
  | e :: r, F => by rw [List.foldl_cons, foldr_len r, relax_len]
theorem roundsN_len (es : List (Nat × Nat)) (F : List Nat) : ∀ r, (roundsN es r F).length = F.length
  | 0 => rfl
  | r + 1 => by show (es.foldl relaxN (roundsN es r F)).length = _; rw [foldr_len, roundsN_len es F r]

set_option maxHeartbeats 3200000 in
theorem firstsOf {lo hi : Nat} (S : Nat) (a : Option Addr) (n c : Nat) (xss : List (List Int)) (w : World) (h : RdR lo hi w (.slice a n c) xss) (hn : xss.length = n) (hg : grB (S : Int) xss = true) :
    Calls Try.prog 96 #[.agg #[.int .i64 (S : Int), .slice a n c]] w fun e w' => ∃ a' c', e = .returned (.slice a' S c') ∧ OwI w.heap.size w'.heap.size w' (.slice a' S c') (zs (labelsN S (nE xss))) ∧ Below w.heap.size w w' := by
  obtain ⟨i0, hi', z0, z1, z2⟩ := info_parts Try.info2
  have hb0 : ∀ o, Below w.heap.size w (w.alloc o) := fun o => (Below.refl _ _).alloc (Nat.le_refl _) o
  obtain ⟨hs1, hs2, h3, h4⟩ := grB_iff hg
  have hn10 : n ≤ 10 := by omega
  have hS1 : 1 ≤ S := by omega
  have hS8 : S ≤ 8 := by omega
  obtain ⟨es, hes⟩ : ∃ es, es = nE xss := ⟨_, rfl⟩
  have HLAB := Lib.hid (rounds_labels (s := S) (nE_in hg))
  have HIN := Lib.hid (nE_in hg)
  have HEG := Lib.hid (fun k (hk : k < xss.length) => nE_get hg hk)
  have HGI := Lib.hid (fun k (hk : k < xss.length) => h4 k hk)
  rw [← hes] at HLAB HIN HEG
  rw [← hes]
  have HEL := Lib.hid (show es.length = n by rw [hes, nE_len]; exact hn)
  have HN := Lib.hid hn
  have HG := Lib.hid hg
  clear hn hg h3 h4 hes
  go_enter Try.func96, Try.ntmps96
  go_wp2_with (at_make; refine wpList_make_full _ rfl _ _ 45 rfl (w.heap.size + 1) 2 i0 (.int .i64 0) 1 Try.underlying45 hi' z0 z1 _ _ _ _ S rfl rfl rfl rfl ?c1 ?c2 ?c3 ?_)
  case c1 => rw [z2]; omega
  case c2 => unfold maxLen; omega
  case c3 => simp
  intro w1 hown hgr
  rw [setTo_zero (zs (List.range S)) S] at hown
  have hbl : Below w.heap.size w w1 := (hb0 _).grown hgr (by simp) (by simp)
  have k0 : w1.cell? ⟨w.heap.size, 0, none⟩ = some (.int .i64 (S : Int)) := hgr.cell (by go_simp) (by simp)
  have k1 : w1.cell? ⟨w.heap.size, 1, none⟩ = some (.slice a n c) := hgr.cell (by go_simp) (by simp)
  have hz : w.heap.size + 1 < w1.heap.size := (hown.lt _ rfl).2
  have hzl : (zs (List.range S)).length = S := by simp [zs]
  have HZL := Lib.hid hzl
  clear hgr hzl
  go_wp2
  go_loopw [13] (fun i wr => ∃ k : Nat, k ≤ S ∧ i = .int .i64 k ∧ wr.ownsRow (w.heap.size + 1) 2 1 (.slice (some ⟨w.heap.size + 1, 0, none⟩) S S) S (setTo (zs (List.range S)) k S) ∧ Below w.heap.size w wr ∧ w.heap.size + 1 < wr.heap.size ∧
    wr.cell? ⟨w.heap.size, 0, none⟩ = some (.int .i64 (S : Int)) ∧ wr.cell? ⟨w.heap.size, 1, none⟩ = some (.slice a n c)) (fun i _ => S - (intOf i).toNat)
  case atStart => exact ⟨0, Nat.zero_le _, rfl, hown, hbl, hz, k0, k1⟩
  case round =>
    clear hown hbl hz k0 k1
    obtain ⟨k, hk, rfl, hown, hbl, hz, k0, k1⟩ := hrel
    by_cases hlt : k < S
    · have h3 := (hown.cellAt k (by omega)).trans (setTo_get (zs (List.range S)) k S HZL.out hlt)
      have h4 := hown.frozenAt k
      have hst := (hown.stored k (.int .i64 ((zs (List.range S)).getD k 0))).1
      have e1 : (zs (List.range S)).getD k 0 = (k : Int) := by rw [zs_get (by simpa using hlt), lab_range hlt]
      rw [setTo_step (zs (List.range S)) k S HZL.out hlt, e1] at hst
      have hch : Chg (w.heap.size + 1) (w.heap.size + 1 + 1) wr (wr.setCell ⟨w.heap.size + 1, k, none⟩ (.int .i64 (k : Int))) := (Chg.refl (w.heap.size + 1) (w.heap.size + 1 + 1) wr).setCell (p := ⟨w.heap.size + 1, k, none⟩) ⟨Nat.le_refl _, Nat.lt_succ_self _⟩ _
      have HF := Lib.hid (⟨hst, hbl.chgn hch (Nat.le_succ _) hbl.size, Nat.lt_of_lt_of_le hz hch.size, hch.cell k0 (.inl (Nat.lt_succ_self _)), hch.cell k1 (.inl (Nat.lt_succ_self _))⟩ : _ ∧ _ ∧ _ ∧ _ ∧ _)
      clear hst hch e1 hown
      go_wp2
      go_roundw
      case rel => exact ⟨k+1, by omega, by go_num, HF.out⟩
      case measure => simp [intOf]; omega
    · obtain rfl : k = S := by omega
      rw [setTo_all (zs (List.range k)) k HZL.out] at hown
      go_wp2
      go_loopw [23] (fun i wr => ∃ r : Nat, r ≤ k ∧ i = .int .i64 r ∧ wr.ownsRow (w.heap.size + 1) 2 1 (.slice (some ⟨w.heap.size + 1, 0, none⟩) k k) k (vz (roundsN es r (List.range k))) ∧ Below w.heap.size w wr ∧ w.heap.size + 1 < wr.heap.size ∧
        wr.cell? ⟨w.heap.size, 0, none⟩ = some (.int .i64 (k : Int)) ∧ wr.cell? ⟨w.heap.size, 1, none⟩ = some (.slice a n c)) (fun i _ => k - (intOf i).toNat)
      case atStart => exact ⟨0, Nat.zero_le _, rfl, hown, hbl, hz, k0, k1⟩
      case round =>
        clear hown hbl hz k0 k1
        obtain ⟨r, hr, rfl, hown, hbl, hz, k0, k1⟩ := hrel
        by_cases hlr : r < k
        · go_wp2_with fail
          refine (edgesOf _ a n c xss _ (h.below hbl) HG.out HN.out).mono ?_
          rintro e w2 ⟨a2, c2, rfl, o2, b2⟩
          replace k0 := b2.keep k0
          replace k1 := b2.keep k1
          have hown2 := ownsRow_chg hown (b2.chg 0 0) (fun _ _ => .inr (Nat.zero_le _))
          have hbl2 := hbl.next b2
          have hz2 : w.heap.size + 1 < w2.heap.size := Nat.lt_of_lt_of_le hz b2.size
          have hE := RdE.mk o2 (by rw [pairs_len]; exact HN.out)
          have hE2 : ∀ j, j < n → ∃ b, a2 = some ⟨b, 0, none⟩ ∧ w.heap.size + 1 + 1 ≤ b ∧ b < w2.heap.size ∧ w2.cell? ⟨b, j * 2, none⟩ = some (.int .i64 ((pairs xss).getD j (0, 0)).1) ∧ w2.cell? ⟨b, j * 2 + 1, none⟩ = some (.int .i64 ((pairs xss).getD j (0, 0)).2) := by
            intro j hj
            obtain ⟨b, e1, e2, e3, e4⟩ := hE j (by rw [pairs_len, HN.out]; exact hj)
            obtain ⟨g, cap, hv, hlo, _⟩ := o2.form (by omega)
            simp only [Value.slice.injEq] at hv
            rw [e1] at hv
            simp only [Option.some.injEq, Addr.mk.injEq] at hv
            exact ⟨b, e1, by omega, e2, e3, e4⟩
          have HE := Lib.hid hE2
          clear o2 b2 hE hE2 hown hbl hz
          have hfl : (roundsN es r (List.range k)).length = k := by rw [roundsN_len]; simp
          obtain ⟨F0, hF0⟩ : ∃ F0, F0 = roundsN es r (List.range k) := ⟨_, rfl⟩
          rw [← hF0] at hown2 hfl
          have HF0 := Lib.hid hF0
          clear hF0
          have hown3 : w2.ownsRow (w.heap.size + 1) 2 1 (.slice (some ⟨w.heap.size + 1, 0, none⟩) k k) k (vz ((es.take 0).foldl relaxN F0)) := hown2
          clear hown2
          go_wp2
          go_loopw [28] (fun i wr => ∃ q : Nat, q ≤ n ∧ i = .int .i64 q ∧ wr.ownsRow (w.heap.size + 1) 2 1 (.slice (some ⟨w.heap.size + 1, 0, none⟩) k k) k (vz ((es.take q).foldl relaxN F0)) ∧ Below w.heap.size w wr ∧ w.heap.size + 1 < wr.heap.size ∧
            wr.cell? ⟨w.heap.size, 0, none⟩ = some (.int .i64 (k : Int)) ∧ wr.cell? ⟨w.heap.size, 1, none⟩ = some (.slice a n c) ∧ Chg (w.heap.size + 1) (w.heap.size + 1 + 1) w2 wr) (fun i _ => n - (intOf i).toNat)
          case atStart => exact ⟨0, Nat.zero_le _, rfl, hown3, hbl2, hz2, k0, k1, Chg.refl _ _ _⟩
          case round =>
            clear hown3 hbl2 k0 k1
            obtain ⟨q, hq, rfl, hown, hbl, hz, k0, k1, hcg⟩ := hrel
            by_cases hlq : q < n
            · obtain ⟨b, rfl, hXb, hb2, h1, h2⟩ := HE.out q hlq
              replace h1 := hcg.cell h1 (.inr hXb)
              replace h2 := hcg.cell h2 (.inr hXb)
              obtain ⟨g1, g2⟩ := HEG.out q (by rw [HN.out]; exact hlq)
              have hgi := HGI.out q (by rw [HN.out]; exact hlq)
              have hfs := fold_snoc relaxN es F0 q (0, 0) (by rw [HEL.out]; exact hlq)
              rw [pairs_get (by rw [HN.out]; exact hlq)] at h1 h2 g1 g2
              simp only at h1 h2 g1 g2
              have hFl : ((es.take q).foldl relaxN F0).length = k := by rw [foldr_len]; exact hfl
              generalize (es.take q).foldl relaxN F0 = F at *
              have hrl : relaxN F (es.getD q (0, 0)) = (F.set (es.getD q (0, 0)).1 (min (lab F (es.getD q (0, 0)).1) (lab F (es.getD q (0, 0)).2))).set (es.getD q (0, 0)).2 (min (lab F (es.getD q (0, 0)).1) (lab F (es.getD q (0, 0)).2)) := rfl
              generalize es.getD q (0, 0) = e at *
              obtain ⟨P0, P1⟩ := e
              simp only at g1 g2 hrl
              have hp0 : (xss.getD q []).getD 0 0 = (P0 : Int) := by omega
              have hp1 : (xss.getD q []).getD 1 0 = (P1 : Int) := by omega
              rw [hp0] at h1 hgi
              rw [hp1] at h2 hgi
              have hk0 : P0 < k := by omega
              have hk1 : P1 < k := by omega
              have c0 := (hown.cellAt P0 (by omega)).trans (vz_get (by omega))
              have c1 := (hown.cellAt P1 (by omega)).trans (vz_get (by omega))
              have f0 := hown.frozenAt P0
              have f1 := hown.frozenAt P1
              rw [← hfs] at hrl
              have hmin : lowI (lab F P0 : Int) (lab F P1 : Int) = ((min (lab F P0) (lab F P1) : Nat) : Int) := by unfold lowI; split <;> omega
              generalize hx0 : ((lab F P0 : Nat) : Int) = x0 at *
              generalize hx1 : ((lab F P1 : Nat) : Int) = x1 at *
              have HRL := Lib.hid hrl
              have HMIN := Lib.hid hmin
              have HOWN := Lib.hid hown
              have HK := Lib.hid (⟨k0, k1, hbl, hcg⟩ : _ ∧ _ ∧ _ ∧ _)
              clear hx0 hx1 hrl hmin hfs hp0 hp1 hgi g1 g2 hown hFl hbl hcg
              go_wp2
              have hA := (Below.refl wr.heap.size wr).alloc (Nat.le_refl _) (.cells #[.int .i64 (P0 : Int), .int .i64 (P1 : Int)] 64)
              have y0 := hA.keep c0
              have y1 := hA.keep c1
              have y2 : (wr.alloc (.cells #[.int .i64 (P0 : Int), .int .i64 (P1 : Int)] 64)).cell? ⟨wr.heap.size, 0, none⟩ = some (.int .i64 (P0 : Int)) := by go_simp
              have y3 : (wr.alloc (.cells #[.int .i64 (P0 : Int), .int .i64 (P1 : Int)] 64)).cell? ⟨wr.heap.size, 1, none⟩ = some (.int .i64 (P1 : Int)) := by go_simp
              have y4 := hA.keepf (show w.heap.size + 1 < wr.heap.size from hz) f0
              have y5 := hA.keepf (show w.heap.size + 1 < wr.heap.size from hz) f1
              have hownV := ownsRow_chg HOWN.out (hA.chg 0 0) (fun _ _ => .inr (Nat.zero_le _))
              obtain ⟨V, hV⟩ : ∃ V, V = wr.alloc (.cells #[.int .i64 (P0 : Int), .int .i64 (P1 : Int)] 64) := ⟨_, rfl⟩
              have hzV : wr.heap.size < V.heap.size := by rw [hV]; simp
              rw [← hV] at y0 y1 y2 y3 y4 y5 hA hownV ⊢
              have HVO := Lib.hid (⟨hA, hownV⟩ : _ ∧ _)
              have hne1 : ¬ w.heap.size + 1 = wr.heap.size := by omega
              have hne2 : ¬ wr.heap.size = w.heap.size + 1 := by omega
              clear hV hA hownV c0 c1 f0 f1 h1 h2 k0 k1
              go_region_held3 (fun W' => W'.cell? ⟨wr.heap.size, 0, none⟩ = some (.int .i64 (P0 : Int)) ∧ W'.cell? ⟨wr.heap.size, 1, none⟩ = some (.int .i64 (P1 : Int)) ∧ W'.cell? ⟨w.heap.size + 1, P0, none⟩ = some (.int .i64 x0) ∧ W'.cell? ⟨w.heap.size + 1, P1, none⟩ = some (.int .i64 x1))
                (first | (exact ⟨y2, y3, y0, y1⟩) | go_keep) (fail)
              have hme : (if x1 < x0 then x1 else x0) = lowI x0 x1 := rfl
              rw [hme, HMIN.out]
              generalize min (lab F P0) (lab F P1) = M at *
              clear hme HMIN
              have BUN : ∀ W', Chg (w.heap.size + 1) (w.heap.size + 1 + 1) V W' → W'.ownsRow (w.heap.size + 1) 2 1 (.slice (some ⟨w.heap.size + 1, 0, none⟩) k k) k (vz ((es.take (q+1)).foldl relaxN F0)) → (W'.ownsRow (w.heap.size + 1) 2 1 (.slice (some ⟨w.heap.size + 1, 0, none⟩) k k) k (vz ((es.take (q+1)).foldl relaxN F0)) ∧ Below w.heap.size w W' ∧ w.heap.size + 1 < W'.heap.size ∧ W'.cell? ⟨w.heap.size, 0, none⟩ = some (.int .i64 (k : Int)) ∧ W'.cell? ⟨w.heap.size, 1, none⟩ = some (.slice a n c) ∧ Chg (w.heap.size + 1) (w.heap.size + 1 + 1) w2 W') := by
                intro W' hc ho
                obtain ⟨k0, k1, hbl, hcg⟩ := HK.out
                have hc2 := (HVO.out.1.chg (w.heap.size + 1) (w.heap.size + 1 + 1)).trans hc
                exact ⟨ho, hbl.chgn hc2 (Nat.le_succ _) hbl.size, Nat.lt_of_lt_of_le hz hc2.size, hc2.cell k0 (.inl (Nat.lt_succ_self _)), hc2.cell k1 (.inl (Nat.lt_succ_self _)), hcg.trans hc2⟩
              have CH : ∀ (U : World) (p : Nat) (v : Value), Chg (w.heap.size + 1) (w.heap.size + 1 + 1) U (U.setCell ⟨w.heap.size + 1, p, none⟩ v) := fun U p v => (Chg.refl (w.heap.size + 1) (w.heap.size + 1 + 1) U).setCell (p := ⟨w.heap.size + 1, p, none⟩) ⟨Nat.le_refl _, Nat.lt_succ_self _⟩ v
              have hs1 := (HVO.out.2.stored P0 (.int .i64 (M : Int))).1
              have hs2 := (hs1.stored P1 (.int .i64 (M : Int))).1
              have hs3 := ((HVO.out.2.stored P1 (.int .i64 (M : Int))).1.stored P0 (.int .i64 (M : Int))).1
              rw [vz_set] at hs1
              rw [vz_set, vz_set] at hs2 hs3
              rw [relax_comm] at hs3
              rw [← HRL.out] at hs2 hs3
              have HB1 := Lib.hid (BUN (World.drew (World.drew _)) (((CH _ _ _).trans (CH _ _ _)).trans ((Qt.refl _).drew.drew.chg _ _)) hs2)
              have HB2 := Lib.hid (BUN (World.drew (World.drew _)) (((CH _ _ _).trans (CH _ _ _)).trans ((Qt.refl _).drew.drew.chg _ _)) hs3)
              clear BUN CH hs1 hs2 hs3 HK HVO
              by_cases hPP : P0 = P1
              case pos =>
                subst hPP
                go_wp2
                go_region_held3 (fun W' => W'.cell? ⟨wr.heap.size, 0, none⟩ = some (.int .i64 (P0 : Int)) ∧ W'.cell? ⟨wr.heap.size, 1, none⟩ = some (.int .i64 (P0 : Int)))
                  (first | (exact ⟨y2, y3⟩) | go_keep) (fail)
                all_goals
                  go_wp2
                  go_roundw
                  case rel => exact ⟨q+1, by omega, by go_num, by first | exact HB1.out | exact HB2.out⟩
                  case measure => simp [intOf]; omega
              case neg =>
                have hPP2 : ¬ P1 = P0 := fun e => hPP e.symm
                go_wp2
                go_region_held3 (fun W' => W'.cell? ⟨wr.heap.size, 0, none⟩ = some (.int .i64 (P0 : Int)) ∧ W'.cell? ⟨wr.heap.size, 1, none⟩ = some (.int .i64 (P1 : Int)))
                  (first | (exact ⟨y2, y3⟩) | go_keep) (fail)
                all_goals
                  go_wp2
                  go_roundw
                  case rel => exact ⟨q+1, by omega, by go_num, by first | exact HB1.out | exact HB2.out⟩
                  case measure => simp [intOf]; omega
            · obtain rfl : q = n := by omega
              rw [List.take_of_length_le (by rw [HEL.out]; exact Nat.le_refl _)] at hown
              have hown2 : wr.ownsRow (w.heap.size + 1) 2 1 (.slice (some ⟨w.heap.size + 1, 0, none⟩) k k) k (vz (roundsN es (r + 1) (List.range k))) := by
                have e : roundsN es (r + 1) (List.range k) = es.foldl relaxN F0 := by rw [HF0.out]; rfl
                rw [e]; exact hown
              clear hown
              go_wp2
              go_roundw
              case rel => exact ⟨r+1, by omega, by go_num, hown2, hbl, hz, k0, k1⟩
              case measure => simp [intOf]; omega
        · obtain rfl : r = k := by omega
          rw [HLAB.out] at hown
          have hI : ∀ x ∈ zs (labelsN r es), I64 x := by
            intro x hx
            obtain ⟨v, hv, rfl⟩ := List.getElem_of_mem hx
            have hL := labelsI HIN.out
            rw [zs_len, hL.len] at hv
            have := hL.le v hv
            have e : (zs (labelsN r es))[v]'(by rw [zs_len, hL.len]; exact hv) = (lab (labelsN r es) v : Int) := by rw [← zs_get (by rw [hL.len]; exact hv)]; simp [List.getD, List.getElem?_eq_getElem (show v < (zs (labelsN r es)).length by rw [zs_len, hL.len]; exact hv)]
            rw [e]; unfold I64; omega
          have hO : OwI (w.heap.size + 1) wr.heap.size wr (.slice (some ⟨w.heap.size + 1, 0, none⟩) r r) (zs (labelsN r es)) := .mk hown (by omega) hI
          have HO := Lib.hid hO
          clear hown hI hO
          go_wp2
          go_ret
          exact ⟨_, _, rfl, OwI.mono HO.out (Nat.le_succ _) (Nat.le_refl _), hbl⟩

end Go.Proofs.Ytecobmmlpoaggaa
