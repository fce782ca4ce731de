/- The least vertices of the parts: the model. -/
import Derived.Test.YtlahfglblgppgaaCoreB
set_option linter.unusedSimpArgs false
set_option linter.unusedVariables false
namespace Go.Proofs.Ytlahfglblgppgaa
open Go.RowKit

def mgP (hi lo : Nat) (F : List Nat) (j : Nat) : List Nat := (F.take j).map (fun z => if z = hi then lo else z) ++ F.drop j
theorem mgP_len (hi lo : Nat) (F : List Nat) (j : Nat) : (mgP hi lo F j).length = F.length := by simp [mgP]; omega
theorem mgP_get {hi lo : Nat} {F : List Nat} {j : Nat} (h : j < F.length) : lab (mgP hi lo F j) j = lab F j := by
  have hl : ((F.take j).map (fun z => if z = hi then lo else z)).length = j := by rw [List.length_map, List.length_take]; omega
  simp only [mgP, lab, List.getD]
  rw [List.getElem?_append_right (by omega), hl, Nat.sub_self, List.getElem?_drop]
  rfl
theorem drop_cons {F : List Nat} {j : Nat} (h : j < F.length) : F.drop j = lab F j :: F.drop (j + 1) := by
  rw [List.drop_eq_getElem_cons h]
  simp [lab, List.getD, List.getElem?_eq_getElem h]
theorem take_lab {F : List Nat} {j : Nat} (h : j < F.length) : F.take (j + 1) = F.take j ++ [lab F j] := by
  rw [List.take_add_one, List.getElem?_eq_getElem h]
  simp [lab, List.getD, List.getElem?_eq_getElem h]
theorem mgP_set {hi lo : Nat} {F : List Nat} {j : Nat} (h : j < F.length) : (mgP hi lo F j).set j (if lab F j = hi then lo else lab F j) = mgP hi lo F (j + 1) := by
  have hl : ((F.take j).map (fun z => if z = hi then lo else z)).length = j := by rw [List.length_map, List.length_take]; omega
  unfold mgP
  rw [List.set_append_right _ _ (by omega), hl, Nat.sub_self, drop_cons h, List.set_cons_zero, take_lab h, List.map_append, List.append_assoc]
  rfl
theorem mgP_same {hi lo : Nat} {F : List Nat} {j : Nat} (h : j < F.length) (hne : ¬ lab F j = hi) : mgP hi lo F (j + 1) = mgP hi lo F j := by
  unfold mgP
  rw [drop_cons h, take_lab h, List.map_append, List.append_assoc]
  simp [hne]
theorem mgP_all (e : Nat × Nat) (F : List Nat) {hi lo : Nat} (h1 : hi = max (lab F e.1) (lab F e.2)) (h2 : lo = min (lab F e.1) (lab F e.2)) : mgP hi lo F F.length = mergeN F e := by
  unfold mgP mergeN
  rw [h1, h2]; simp
theorem merge_len (F : List Nat) (e : Nat × Nat) : (mergeN F e).length = F.length := by simp [mergeN]
theorem foldm_len : ∀ (es : List (Nat × Nat)) (F : List Nat), (es.foldl mergeN F).length = F.length
  | [], F => rfl
  | e :: r, F => by rw [List.foldl_cons, foldm_len r, merge_len]
theorem zs_snoc_range (k : Nat) : vz (List.range (k + 1)) = vz (List.range k) ++ [.int .i64 (k : Int)] := by
  unfold vz zs
  rw [List.range_succ]; simp

set_option maxHeartbeats 6400000 in
theorem l01Parts {lo hi : Nat} (S : Nat) (a : Option Addr) (n c : Nat) (xss : List (List Int)) (w : World) (h : RdR lo hi w (.slice a n c) xss) (hn : xss.length = n) (hg : grB (S : Int) xss = true) :
    Calls Try.prog 105 #[.agg #[.int .i64 (S : Int), .slice a n c]] w fun e w' => ∃ a' c', e = .returned (.slice a' S c') ∧ OwI w.heap.size w'.heap.size w' (.slice a' S c') (zs (labelsN S (nE xss))) ∧ Below w.heap.size w w' := by
  obtain ⟨i0, hi', z0, z1, z2⟩ := info_parts Try.info2
  have hb0 : ∀ o o', Below w.heap.size w ((w.alloc o).alloc o') := fun o o' => ((Below.refl _ _).alloc (Nat.le_refl _) o).alloc (by simp) o'
  obtain ⟨hs1, hs2, h3, h4⟩ := grB_iff hg
  have hn10 : n ≤ 10 := by omega
  have hS1 : 1 ≤ S := by omega
  have hS8 : S ≤ 8 := by omega
  obtain ⟨es, hes⟩ : ∃ es, es = nE xss := ⟨_, rfl⟩
  have HIN := Lib.hid (nE_in hg)
  have HEG := Lib.hid (fun k (hk : k < xss.length) => nE_get hg hk)
  have HGI := Lib.hid (fun k (hk : k < xss.length) => h4 k hk)
  have HCC := Lib.hid (h.at hn)
  rw [← hes] at HIN HEG
  rw [← hes]
  have HEL := Lib.hid (show es.length = n by rw [hes, nE_len]; exact hn)
  have HN := Lib.hid hn
  have hlit : (w.alloc (.cells #[.int .i64 (S : Int), .slice a n c] 29)).heap.size = w.heap.size + 1 := by simp
  have hl0 := World.ownsRow_lit (base := w.heap.size + 1) (e := 2) (size := 1) (w.alloc (.cells #[.int .i64 (S : Int), .slice a n c] 29)) #[] 0 (by rw [hlit]; exact Nat.le_refl _) (by unfold maxLen; omega) rfl
  rw [hlit] at hl0
  have HL := Lib.hid hl0
  clear hn hg h3 h4 hes h hl0 hlit
  go_enter Try.func105, Try.ntmps105
  go_wp2
  go_loopw [4, 3] (fun i v wr => ∃ k : Nat, k ≤ S ∧ i = .int .i64 k ∧ wr.ownsRow (w.heap.size + 1) 2 1 v k (vz (List.range k)) ∧ Below w.heap.size w wr ∧ w.heap.size + 1 < wr.heap.size ∧
    wr.cell? ⟨w.heap.size, 0, none⟩ = some (.int .i64 (S : Int)) ∧ wr.cell? ⟨w.heap.size, 1, none⟩ = some (.slice a n c)) (fun i _ _ => S - (intOf i).toNat)
  case atStart => exact ⟨0, Nat.zero_le _, rfl, HL.out, hb0 _ _, by simp, by go_simp, by go_simp⟩
  case round =>
    obtain ⟨k, hk, rfl, hown, hB, hz, k0, k1⟩ := hrel
    by_cases hlt : k < S
    · go_wp2_with (at_builtin; refine wpList_append_own _ rfl _ _ 26 rfl (w.heap.size + 1) 2 i0 (.int .i64 0) 1 8 Try.underlying26 hi' z0 z1 z2 rfl (by decide) _ _ _ rfl (hown.alloc _) ⟨wr.heap.size, 0, none⟩ 1 1 [.int .i64 (k : Int)] rfl rfl ?c1 ?c2 ?c3 ?c4 ?c5 ?_)
      case c1 =>
        intro j u hj
        have hj2 := news_one wr 2 (.int .i64 (k : Int)) j u hj
        have e0 : j = 0 := by
          have := (List.getElem?_eq_some_iff.1 hj).1
          simp only [List.length_cons, List.length_nil] at this; omega
        subst e0
        exact hj2
      case c2 => first | (intro u hu; simp at hu; subst hu; rfl) | rfl | simp
      case c3 => unfold maxLen; omega
      case c4 => omega
      case c5 => simp; omega
      intro v3 w3 hown3 hgr _
      obtain ⟨hB3, hz3, hcl, _⟩ := grown_own hB hown (Nat.le_succ _) hgr
      have q0 := hcl _ _ (show w.heap.size < w.heap.size + 1 by omega) k0
      have q1 := hcl _ _ (show w.heap.size < w.heap.size + 1 by omega) k1
      have e3 := zs_snoc_range k
      rw [← e3] at hown3
      have HF := Lib.hid (⟨hown3, hB3, Nat.lt_trans hz hz3, q0, q1⟩ : _ ∧ _ ∧ _ ∧ _ ∧ _)
      clear hgr hown e3 hown3 hB3 hcl q0 q1
      go_wp2
      go_roundw
      case rel => exact ⟨k+1, by omega, by go_num, HF.out⟩
      case measure => simp [intOf]; omega
    · obtain rfl : k = S := by omega
      obtain ⟨X, cap, hv, hX, hXl⟩ := hown.form (by omega)
      subst hv
      go_wp2
      go_loopw [5] (fun i wr => ∃ q : Nat, q ≤ n ∧ i = .int .i64 q ∧ wr.ownsRow (w.heap.size + 1) 2 1 (.slice (some ⟨X, 0, none⟩) k cap) k (vz ((es.take q).foldl mergeN (List.range k))) ∧ Below w.heap.size w wr ∧ X < wr.heap.size ∧
        wr.cell? ⟨w.heap.size, 0, none⟩ = some (.int .i64 (k : Int)) ∧ wr.cell? ⟨w.heap.size, 1, none⟩ = some (.slice a n c)) (fun i _ => n - (intOf i).toNat)
      case atStart => exact ⟨0, Nat.zero_le _, rfl, hown, hB, hXl, k0, k1⟩
      case round =>
        clear hown hB hXl k0 k1
        obtain ⟨q, hq, rfl, hown, hbl, hXl, k0, k1⟩ := hrel
        by_cases hlq : q < n
        · obtain ⟨b, off, rv, rfl, h1, r1⟩ := HCC.out q hlq
          obtain ⟨g1, g2⟩ := HEG.out q (by rw [HN.out]; exact hlq)
          have hgi := HGI.out q (by rw [HN.out]; exact hlq)
          obtain ⟨b', off', cap', rfl, h2, h3⟩ := r1.two hgi.1
          have hbw := World.block_lt_of_cell? w _ h1
          have hbw' := World.block_lt_of_cell? w _ h2
          replace h1 := hbl.keep h1
          replace h2 := hbl.keep h2
          replace h3 := hbl.keep h3
          have hfs := fold_snoc mergeN es (List.range k) q (0, 0) (by rw [HEL.out]; exact hlq)
          rw [pairs_get (by rw [HN.out]; exact hlq)] at g1 g2
          simp only at g1 g2
          have hFl : ((es.take q).foldl mergeN (List.range k)).length = k := by rw [foldm_len]; simp
          generalize (es.take q).foldl mergeN (List.range k) = F at *
          generalize es.getD q (0, 0) = e at *
          obtain ⟨P0, P1⟩ := e
          simp only at g1 g2
          have hp0 : (xss.getD q []).getD 0 0 = (P0 : Int) := by omega
          have hp1 : (xss.getD q []).getD 1 0 = (P1 : Int) := by omega
          rw [hp0] at h2 hgi
          rw [hp1] at h3 hgi
          have hk0 : P0 < k := by omega
          have hk1 : P1 < k := by omega
          have c0 := (hown.cellAt P0 (by omega)).trans (vz_get (by omega))
          have c1 := (hown.cellAt P1 (by omega)).trans (vz_get (by omega))
          have hmx : ∀ hi lo, hi = max (lab F P0) (lab F P1) → lo = min (lab F P0) (lab F P1) → mgP hi lo F k = (es.take (q + 1)).foldl mergeN (List.range k) := fun hi lo e1 e2 => by rw [hfs, ← mgP_all (P0, P1) F e1 e2, hFl]
          have HMX := Lib.hid hmx
          have HFL := Lib.hid hFl
          generalize hx0 : ((lab F P0 : Nat) : Int) = x0 at *
          generalize hx1 : ((lab F P1 : Nat) : Int) = x1 at *
          have HX := Lib.hid (⟨hx0, hx1⟩ : _ ∧ _)
          have hown0 : wr.ownsRow (w.heap.size + 1) 2 1 (.slice (some ⟨X, 0, none⟩) k cap) k (vz F) := hown
          have HOWN := Lib.hid hown0
          have HK := Lib.hid (⟨k0, k1, hbl⟩ : _ ∧ _ ∧ _)
          clear hx0 hx1 hmx hfs hp0 hp1 hgi g1 g2 hown hown0 hFl hbl r1
          go_wp2
          go_region_held3 (fun W' => W'.cell? ⟨w.heap.size, 1, none⟩ = some (.slice (some ⟨b, off, none⟩) n c) ∧ W'.cell? ⟨b, off + q, none⟩ = some (.slice (some ⟨b', off', none⟩) 2 cap') ∧ W'.cell? ⟨b', off', none⟩ = some (.int .i64 (P0 : Int)) ∧ W'.cell? ⟨b', off' + 1, none⟩ = some (.int .i64 (P1 : Int)) ∧ W'.cell? ⟨X, P0, none⟩ = some (.int .i64 x0) ∧ W'.cell? ⟨X, P1, none⟩ = some (.int .i64 x1))
            (first | (exact ⟨k1, h1, h2, h3, c0, c1⟩) | go_keep) (fail)
          all_goals
            clear h1 h2 h3 c0 c1
            have hcase : (x0 < x1) ∨ (x1 < x0) ∨ (¬ x0 < x1 ∧ ¬ x1 < x0 ∧ x1 = x0) := by omega
            rcases hcase with hlt01 | hlt01 | ⟨hn01, hn10', hxe⟩
            · have hn01 : ¬ x1 < x0 := by omega
              obtain ⟨hi, hhi⟩ : ∃ hi, hi = lab F P1 := ⟨_, rfl⟩
              obtain ⟨lo', hlo⟩ : ∃ lo', lo' = lab F P0 := ⟨_, rfl⟩
              have hxh : x1 = (hi : Int) := by rw [hhi]; have := HX.out; omega
              have hxl : x0 = (lo' : Int) := by rw [hlo]; have := HX.out; omega
              have hall := HMX.out hi lo' (by have := HX.out; omega) (by have := HX.out; omega)
              have HXH := Lib.hid (⟨hxh, hxl, hall⟩ : _ ∧ _ ∧ _)
              clear hxh hxl hall hhi hlo
              go_wp2
              go_loopw [8] (fun i wr' => ∃ j : Nat, j ≤ k ∧ i = .int .i64 j ∧ wr'.ownsRow (w.heap.size + 1) 2 1 (.slice (some ⟨X, 0, none⟩) k cap) k (vz (mgP hi lo' F j)) ∧ Chg X (X+1) wr wr') (fun i _ => k - (intOf i).toNat)
              case atStart => exact ⟨0, Nat.zero_le _, rfl, by simp [mgP]; exact ownsRow_chg HOWN.out ((Qt.refl wr).drew.chg 0 0) (fun _ _ => .inr (Nat.zero_le _)), (Qt.refl wr).drew.chg _ _⟩
              case round =>
                rename_i hrel
                obtain ⟨j, hj, rfl, hown, hcg⟩ := hrel
                by_cases hlj : j < k
                · have hjl : j < F.length := by rw [HFL.out]; exact hlj
                  have hgt := mgP_get (hi := hi) (lo := lo') hjl
                  have d0 := (hown.cellAt j (by omega)).trans (vz_get (by rw [mgP_len]; exact hjl))
                  have d1 := hown.frozenAt j
                  rw [hgt] at d0
                  by_cases hq : lab F j = hi
                  · have hst := (hown.stored j (.int .i64 ((if lab F j = hi then lo' else lab F j : Nat) : Int))).1
                    rw [vz_set, mgP_set hjl, if_pos hq] at hst
                    rw [← HXH.out.2.1] at hst
                    have hzh : ((lab F j : Nat) : Int) = x1 := by rw [hq]; exact HXH.out.1.symm
                    rw [hzh] at d0
                    have hc2 := hcg.trans ((Chg.refl X (X+1) _).setCell (p := ⟨X, j, none⟩) ⟨Nat.le_refl _, Nat.lt_succ_self _⟩ (.int .i64 x0))
                    have HS := Lib.hid (⟨hst, hc2⟩ : _ ∧ _)
                    clear hst hc2 hown hcg hgt hzh hq
                    go_wp2
                    go_roundw
                    case rel => exact ⟨j+1, by omega, by go_num, HS.out⟩
                    case measure => simp [intOf]; omega
                  · have hst := mgP_same (hi := hi) (lo := lo') hjl hq
                    have hzh : ¬ ((lab F j : Nat) : Int) = x1 := by have := HXH.out.1; omega
                    generalize ((lab F j : Nat) : Int) = zz at *
                    have hzb : (zz == x1) = false := by simpa using hzh
                    rw [← hst] at hown
                    have HS := Lib.hid (⟨hown, hcg⟩ : _ ∧ _)
                    clear hst hown hcg hgt hzh hq
                    go_wp2
                    go_roundw
                    case rel => exact ⟨j+1, by omega, by go_num, HS.out⟩
                    case measure => simp [intOf]; omega
                · obtain rfl : j = k := by omega
                  rw [HXH.out.2.2] at hown
                  obtain ⟨k0, k1, hbl⟩ := HK.out
                  have hwX : w.heap.size < X := by omega
                  have HS := Lib.hid (⟨hown, hbl.chgn hcg (by omega) hbl.size, Nat.lt_of_lt_of_le hXl hcg.size, hcg.cell k0 (.inl hwX), hcg.cell k1 (.inl hwX)⟩ : _ ∧ _ ∧ _ ∧ _ ∧ _)
                  clear hown hcg k0 k1 hbl
                  go_wp2
                  go_roundw
                  case rel => exact ⟨q+1, by omega, by go_num, HS.out⟩
                  case measure => simp [intOf]; omega
            · have hn01 : ¬ x0 < x1 := by omega
              obtain ⟨hi, hhi⟩ : ∃ hi, hi = lab F P0 := ⟨_, rfl⟩
              obtain ⟨lo', hlo⟩ : ∃ lo', lo' = lab F P1 := ⟨_, rfl⟩
              have hxh : x0 = (hi : Int) := by rw [hhi]; have := HX.out; omega
              have hxl : x1 = (lo' : Int) := by rw [hlo]; have := HX.out; omega
              have hall := HMX.out hi lo' (by have := HX.out; omega) (by have := HX.out; omega)
              have HXH := Lib.hid (⟨hxh, hxl, hall⟩ : _ ∧ _ ∧ _)
              clear hxh hxl hall hhi hlo
              go_wp2
              go_loopw [8] (fun i wr' => ∃ j : Nat, j ≤ k ∧ i = .int .i64 j ∧ wr'.ownsRow (w.heap.size + 1) 2 1 (.slice (some ⟨X, 0, none⟩) k cap) k (vz (mgP hi lo' F j)) ∧ Chg X (X+1) wr wr') (fun i _ => k - (intOf i).toNat)
              case atStart => exact ⟨0, Nat.zero_le _, rfl, by simp [mgP]; exact ownsRow_chg HOWN.out ((Qt.refl wr).drew.chg 0 0) (fun _ _ => .inr (Nat.zero_le _)), (Qt.refl wr).drew.chg _ _⟩
              case round =>
                rename_i hrel
                obtain ⟨j, hj, rfl, hown, hcg⟩ := hrel
                by_cases hlj : j < k
                · have hjl : j < F.length := by rw [HFL.out]; exact hlj
                  have hgt := mgP_get (hi := hi) (lo := lo') hjl
                  have d0 := (hown.cellAt j (by omega)).trans (vz_get (by rw [mgP_len]; exact hjl))
                  have d1 := hown.frozenAt j
                  rw [hgt] at d0
                  by_cases hq : lab F j = hi
                  · have hst := (hown.stored j (.int .i64 ((if lab F j = hi then lo' else lab F j : Nat) : Int))).1
                    rw [vz_set, mgP_set hjl, if_pos hq] at hst
                    rw [← HXH.out.2.1] at hst
                    have hzh : ((lab F j : Nat) : Int) = x0 := by rw [hq]; exact HXH.out.1.symm
                    rw [hzh] at d0
                    have hc2 := hcg.trans ((Chg.refl X (X+1) _).setCell (p := ⟨X, j, none⟩) ⟨Nat.le_refl _, Nat.lt_succ_self _⟩ (.int .i64 x1))
                    have HS := Lib.hid (⟨hst, hc2⟩ : _ ∧ _)
                    clear hst hc2 hown hcg hgt hzh hq
                    go_wp2
                    go_roundw
                    case rel => exact ⟨j+1, by omega, by go_num, HS.out⟩
                    case measure => simp [intOf]; omega
                  · have hst := mgP_same (hi := hi) (lo := lo') hjl hq
                    have hzh : ¬ ((lab F j : Nat) : Int) = x0 := by have := HXH.out.1; omega
                    generalize ((lab F j : Nat) : Int) = zz at *
                    have hzb : (zz == x0) = false := by simpa using hzh
                    rw [← hst] at hown
                    have HS := Lib.hid (⟨hown, hcg⟩ : _ ∧ _)
                    clear hst hown hcg hgt hzh hq
                    go_wp2
                    go_roundw
                    case rel => exact ⟨j+1, by omega, by go_num, HS.out⟩
                    case measure => simp [intOf]; omega
                · obtain rfl : j = k := by omega
                  rw [HXH.out.2.2] at hown
                  obtain ⟨k0, k1, hbl⟩ := HK.out
                  have hwX : w.heap.size < X := by omega
                  have HS := Lib.hid (⟨hown, hbl.chgn hcg (by omega) hbl.size, Nat.lt_of_lt_of_le hXl hcg.size, hcg.cell k0 (.inl hwX), hcg.cell k1 (.inl hwX)⟩ : _ ∧ _ ∧ _ ∧ _ ∧ _)
                  clear hown hcg k0 k1 hbl
                  go_wp2
                  go_roundw
                  case rel => exact ⟨q+1, by omega, by go_num, HS.out⟩
                  case measure => simp [intOf]; omega
            · subst hxe
              obtain ⟨hi, hhi⟩ : ∃ hi, hi = lab F P0 := ⟨_, rfl⟩
              obtain ⟨lo', hlo⟩ : ∃ lo', lo' = lab F P0 := ⟨_, rfl⟩
              have hxh : x1 = (hi : Int) := by rw [hhi]; have := HX.out; omega
              have hxl : x1 = (lo' : Int) := by rw [hlo]; have := HX.out; omega
              have hall := HMX.out hi lo' (by have := HX.out; omega) (by have := HX.out; omega)
              have HXH := Lib.hid (⟨hxh, hxl, hall⟩ : _ ∧ _ ∧ _)
              clear hxh hxl hall hhi hlo
              go_wp2
              go_loopw [8] (fun i wr' => ∃ j : Nat, j ≤ k ∧ i = .int .i64 j ∧ wr'.ownsRow (w.heap.size + 1) 2 1 (.slice (some ⟨X, 0, none⟩) k cap) k (vz (mgP hi lo' F j)) ∧ Chg X (X+1) wr wr') (fun i _ => k - (intOf i).toNat)
              case atStart => exact ⟨0, Nat.zero_le _, rfl, by simp [mgP]; exact ownsRow_chg HOWN.out ((Qt.refl wr).drew.chg 0 0) (fun _ _ => .inr (Nat.zero_le _)), (Qt.refl wr).drew.chg _ _⟩
              case round =>
                rename_i hrel
                obtain ⟨j, hj, rfl, hown, hcg⟩ := hrel
                by_cases hlj : j < k
                · have hjl : j < F.length := by rw [HFL.out]; exact hlj
                  have hgt := mgP_get (hi := hi) (lo := lo') hjl
                  have d0 := (hown.cellAt j (by omega)).trans (vz_get (by rw [mgP_len]; exact hjl))
                  have d1 := hown.frozenAt j
                  rw [hgt] at d0
                  by_cases hq : lab F j = hi
                  · have hst := (hown.stored j (.int .i64 ((if lab F j = hi then lo' else lab F j : Nat) : Int))).1
                    rw [vz_set, mgP_set hjl, if_pos hq] at hst
                    rw [← HXH.out.2.1] at hst
                    have hzh : ((lab F j : Nat) : Int) = x1 := by rw [hq]; exact HXH.out.1.symm
                    rw [hzh] at d0
                    have hc2 := hcg.trans ((Chg.refl X (X+1) _).setCell (p := ⟨X, j, none⟩) ⟨Nat.le_refl _, Nat.lt_succ_self _⟩ (.int .i64 x1))
                    have HS := Lib.hid (⟨hst, hc2⟩ : _ ∧ _)
                    clear hst hc2 hown hcg hgt hzh hq
                    go_wp2
                    go_roundw
                    case rel => exact ⟨j+1, by omega, by go_num, HS.out⟩
                    case measure => simp [intOf]; omega
                  · have hst := mgP_same (hi := hi) (lo := lo') hjl hq
                    have hzh : ¬ ((lab F j : Nat) : Int) = x1 := by have := HXH.out.1; omega
                    generalize ((lab F j : Nat) : Int) = zz at *
                    have hzb : (zz == x1) = false := by simpa using hzh
                    rw [← hst] at hown
                    have HS := Lib.hid (⟨hown, hcg⟩ : _ ∧ _)
                    clear hst hown hcg hgt hzh hq
                    go_wp2
                    go_roundw
                    case rel => exact ⟨j+1, by omega, by go_num, HS.out⟩
                    case measure => simp [intOf]; omega
                · obtain rfl : j = k := by omega
                  rw [HXH.out.2.2] at hown
                  obtain ⟨k0, k1, hbl⟩ := HK.out
                  have hwX : w.heap.size < X := by omega
                  have HS := Lib.hid (⟨hown, hbl.chgn hcg (by omega) hbl.size, Nat.lt_of_lt_of_le hXl hcg.size, hcg.cell k0 (.inl hwX), hcg.cell k1 (.inl hwX)⟩ : _ ∧ _ ∧ _ ∧ _ ∧ _)
                  clear hown hcg k0 k1 hbl
                  go_wp2
                  go_roundw
                  case rel => exact ⟨q+1, by omega, by go_num, HS.out⟩
                  case measure => simp [intOf]; omega
        · obtain rfl : q = n := by omega
          rw [List.take_of_length_le (by rw [HEL.out]; exact Nat.le_refl _)] at hown
          have hI : ∀ x ∈ zs (labelsN k es), I64 x := by
            intro x hx
            obtain ⟨v, hv, rfl⟩ := List.getElem_of_mem hx
            have hL := labelsI HIN.out
            rw [zs_len, hL.len] at hv
            have := hL.le v hv
            have e : (zs (labelsN k es))[v]'(by rw [zs_len, hL.len]; exact hv) = (lab (labelsN k es) v : Int) := by rw [← zs_get (by rw [hL.len]; exact hv)]; simp [List.getD, List.getElem?_eq_getElem (show v < (zs (labelsN k es)).length by rw [zs_len, hL.len]; exact hv)]
            rw [e]; unfold I64; omega
          have hO : OwI (w.heap.size + 1) wr.heap.size wr (.slice (some ⟨X, 0, none⟩) k cap) (zs (labelsN k es)) := .mk hown (by omega) hI
          have HO := Lib.hid hO
          clear hown hI hO
          go_wp2
          go_ret
          exact ⟨_, _, rfl, OwI.mono HO.out (Nat.le_succ _) (Nat.le_refl _), hbl⟩

end Go.Proofs.Ytlahfglblgppgaa
