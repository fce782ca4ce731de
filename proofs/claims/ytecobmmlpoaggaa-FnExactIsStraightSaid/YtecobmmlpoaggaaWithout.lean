/- The program's graph without a leaf. -/
import Derived.Test.YtecobmmlpoaggaaLeaf
import Derived.Deep.RegionHeld3
set_option linter.unusedSimpArgs false
set_option linter.unusedVariables false
namespace Go.Proofs.Ytecobmmlpoaggaa
open Go.RowKit

theorem news2 (w : World) (t : TypeId) (x y : Value) : ∀ (j : Nat) (u : Value), [x, y][j]? = some u → (w.alloc (.cells #[x, y] t)).cell? (({ block := w.heap.size, off := 0 } : Addr).add j) = some u := by
  intro j u hj
  match j, hj with
  | 0, hj => simp at hj; subst hj; simp [Addr.add]
  | 1, hj => simp at hj; subst hj; simp [Addr.add]

def cutE (v : Int) (es : List (Int × Int)) : List (Int × Int) := (es.filter (fun e => e.1 != v && e.2 != v)).map (fun e => (low v e.1, low v e.2))
theorem unp_cutE (v : Int) (es : List (Int × Int)) : unp (cutE v es) = cutV v (unp es) := by
  induction es with
  | nil => rfl
  | cons e r ih =>
    unfold unp cutE cutV at ih ⊢
    simp only [List.map_cons, List.filter_cons, offV, List.getD_cons_zero, List.getD_cons_succ]
    by_cases h : (e.1 != v && e.2 != v) = true
    · rw [if_pos h, if_pos h]
      simp only [List.map_cons, ih]
      rfl
    · rw [if_neg h, if_neg h]; exact ih
theorem cutE_in {es : List (Int × Int)} {q : Nat} {v : Int} (hq : q < es.length) (h1 : ¬ (es.getD q (0, 0)).1 = v) (h2 : ¬ (es.getD q (0, 0)).2 = v) : cutE v (es.take (q + 1)) = cutE v (es.take q) ++ [(low v (es.getD q (0, 0)).1, low v (es.getD q (0, 0)).2)] := by
  unfold cutE
  rw [List.take_add_one, List.getElem?_eq_getElem hq, List.filter_append, List.map_append]
  have e : es.getD q (0, 0) = es[q] := by simp [List.getD, List.getElem?_eq_getElem hq]
  rw [e] at h1 h2
  simp [List.filter_cons, h1, h2, List.getD, List.getElem?_eq_getElem hq]
theorem cutE_out {es : List (Int × Int)} {q : Nat} {v : Int} (hq : q < es.length) (h : (es.getD q (0, 0)).1 = v ∨ (es.getD q (0, 0)).2 = v) : cutE v (es.take (q + 1)) = cutE v (es.take q) := by
  unfold cutE
  rw [List.take_add_one, List.getElem?_eq_getElem hq, List.filter_append, List.map_append]
  have e : es.getD q (0, 0) = es[q] := by simp [List.getD, List.getElem?_eq_getElem hq]
  rw [e] at h
  rcases h with h | h <;> simp [List.filter_cons, h]
theorem cutE_I64 {s v : Int} {xss : List (List Int)} (h : grB s xss = true) : ∀ j, j < (cutE v (pairs xss)).length → I64 ((cutE v (pairs xss)).getD j (0, 0)).1 ∧ I64 ((cutE v (pairs xss)).getD j (0, 0)).2 := by
  intro j hj
  have hs := grB_iff h
  have e : (cutE v (pairs xss)).getD j (0, 0) = (cutE v (pairs xss))[j] := by simp [List.getD, List.getElem?_eq_getElem hj]
  rw [e]
  have hm := List.getElem_mem hj
  simp only [cutE, List.mem_map, List.mem_filter] at hm
  obtain ⟨f, ⟨hf, _⟩, he⟩ := hm
  simp only [cutE]
  rw [← he]
  simp only [pairs, List.mem_map] at hf
  obtain ⟨r, hr, rfl⟩ := hf
  have := grB_mem h r hr
  unfold I64 low
  simp only
  constructor <;> constructor <;> (split <;> omega)

set_option maxRecDepth 100000 in
set_option maxHeartbeats 6400000 in
theorem withoutLeaf {lo hi : Nat} (S v : Nat) (a : Option Addr) (n c : Nat) (xss : List (List Int)) (w : World) (h : RdR lo hi w (.slice a n c) xss) (hn : xss.length = n) (hg : grB (S : Int) xss = true) :
    Calls Try.prog 88 #[.agg #[.int .i64 (S : Int), .slice a n c], .int .i64 (v : Int)] w fun e w' => ∃ a' c', e = .returned (.agg #[.int .i64 ((S : Int) - 1), .slice a' (cutV (v : Int) xss).length c']) ∧ OwR w.heap.size w'.heap.size w' (.slice a' (cutV (v : Int) xss).length c') (cutV (v : Int) xss) ∧ Below w.heap.size w w' := by
  obtain ⟨i0, hi', z0, z1, z2⟩ := info_parts Try.info64
  have hb0 : ∀ o o', Below w.heap.size w ((w.alloc o).alloc o') := fun o o' => ((Below.refl _ _).alloc (Nat.le_refl _) o).alloc (by simp) o'
  obtain ⟨hs1, hs2, h3, h4⟩ := grB_iff hg
  have hn10 : n ≤ 10 := by omega
  have hS8 : S ≤ 8 := by omega
  have HU := Lib.hid (show unp (cutE (v : Int) (pairs xss)) = cutV (v : Int) xss by rw [unp_cutE, unp_pairs hg])
  have HI := Lib.hid (cutE_I64 (v := (v : Int)) hg)
  have HGI := Lib.hid (fun k (hk : k < xss.length) => gr_I64 hg hk)
  have HEO := Lib.hid (fun W' (h : RdR lo hi W' (.slice a n c) xss) => edgesOf (S : Int) a n c xss W' h hg hn)
  obtain ⟨es, hes⟩ : ∃ es, es = pairs xss := ⟨_, rfl⟩
  have HEL := Lib.hid (show es.length = n by rw [hes, pairs_len]; exact hn)
  rw [← hes] at HU HI HGI
  have HN := Lib.hid hn
  have hlen0 : (cutE (v : Int) es).length ≤ n := by
    have := List.length_filter_le (fun e : Int × Int => e.1 != (v : Int) && e.2 != (v : Int)) es
    have h2 := HEL.out
    simp only [cutE, List.length_map]; omega
  have HES := Lib.hid hes
  have hv0 : (0 : Int) ≤ (v : Int) := by omega
  generalize cutV (v : Int) xss = F at *
  clear hn hg h3 h4 hes
  go_enter Try.func88, Try.ntmps88
  go_wp2_with fail
  refine calls_gen (fun W => Below w.heap.size w W ∧ w.heap.size + 1 < W.heap.size ∧ W.cell? ⟨w.heap.size, 0, none⟩ = some (.int .i64 (S : Int)) ∧ W.cell? ⟨w.heap.size, 1, none⟩ = some (.slice a n c) ∧ W.cell? ⟨w.heap.size + 1, 0, none⟩ = some (.int .i64 0) ∧ W.cell? ⟨w.heap.size + 1, 1, none⟩ = some (.slice none 0 0) ∧ W.frozen? ⟨w.heap.size + 1, 0, none⟩ = false ∧ W.frozen? ⟨w.heap.size + 1, 1, none⟩ = false) ⟨hb0 _ _, by simp, by go_simp, by go_simp, by go_simp, by go_simp, by go_simp, by go_simp⟩ ?_
  rintro W ⟨hB, hz, k1, k2, k3, k4, f3, f4⟩
  obtain ⟨R, hR⟩ : ∃ R, R = w.heap.size + 1 := ⟨_, rfl⟩
  rw [← hR] at hz k3 k4 f3 f4 ⊢
  have hwR : w.heap.size < R := by omega
  clear hR
  refine (HEO.out W (h.below hB)).mono ?_
  rintro e w2 ⟨a2, c2, rfl, o2, b2⟩
  replace k1 := b2.keep k1
  replace k3 := b2.keep k3
  replace k4 := b2.keep k4
  replace f3 := b2.keepf hz f3
  replace f4 := b2.keepf hz f4
  replace hB := hB.next b2
  have hz2 : R < w2.heap.size := Nat.lt_of_lt_of_le hz b2.size
  have HRE := Lib.hid (RdE.mk o2 (by rw [pairs_len]; exact HN.out))
  rw [← HES.out] at HRE
  have HK := Lib.hid (⟨k1, k3, k4, f3, f4, hB⟩ : _ ∧ _ ∧ _ ∧ _ ∧ _ ∧ _)
  clear o2 b2 k1 k2 k3 k4 f3 f4 hB hz
  go_wp2
  go_loopw [11, 5] (fun i kv wr => ∃ q m : Nat, q ≤ n ∧ i = .int .i64 q ∧ m ≤ q ∧ (cutE (v : Int) (es.take q)).length = m ∧ wr.ownsRow w2.heap.size 64 2 kv m (flat (cutE (v : Int) (es.take q))) ∧ Below w2.heap.size w2 wr) (fun i _ _ => n - (intOf i).toNat)
  case atStart => exact ⟨0, 0, Nat.zero_le _, rfl, Nat.le_refl _, rfl, World.ownsRow_nil _ _ _ _, Below.refl _ _⟩
  case round =>
    rename_i hrel
    obtain ⟨q, m, hq, rfl, hmq, hml, hown, hB⟩ := hrel
    by_cases hlq : q < n
    · have hqe : q < es.length := by rw [HEL.out]; exact hlq
      obtain ⟨b, rfl, hb2, h1, h2⟩ := HRE.out q hqe
      replace h1 := hB.keep h1
      replace h2 := hB.keep h2
      have hgi := HGI.out q (by rw [HN.out]; exact hlq)
      have hin := cutE_in (v := (v : Int)) hqe
      have hout := cutE_out (v := (v : Int)) hqe
      generalize (es.getD q (0, 0)).1 = p0 at *
      generalize (es.getD q (0, 0)).2 = p1 at *
      obtain ⟨i1, i2⟩ := hgi
      by_cases hoff : ¬ p0 = (v : Int) ∧ ¬ p1 = (v : Int)
      · obtain ⟨hf0, hf1⟩ := hoff
        have hst := hin hf0 hf1
        have HST := Lib.hid hst
        have hb1 : (p0 != (v : Int)) = true := by simpa using hf0
        have hb2' : (p1 != (v : Int)) = true := by simpa using hf1
        have HOWN := Lib.hid (⟨hown, hml, hB⟩ : _ ∧ _ ∧ _)
        clear hin hout hst hf0 hf1
        go_wp2
        have hA := (Below.refl wr.heap.size wr).alloc (Nat.le_refl _) (.cells #[.int .i64 p0, .int .i64 p1] 64)
        have z3 : (wr.alloc (.cells #[.int .i64 p0, .int .i64 p1] 64)).cell? ⟨wr.heap.size, 0, none⟩ = some (.int .i64 p0) := by go_simp
        have z4 : (wr.alloc (.cells #[.int .i64 p0, .int .i64 p1] 64)).cell? ⟨wr.heap.size, 1, none⟩ = some (.int .i64 p1) := by go_simp
        have ownV := ownsRow_chg hown (hA.chg 0 0) (fun _ _ => .inr (Nat.zero_le _))
        obtain ⟨V, hV⟩ : ∃ V, V = wr.alloc (.cells #[.int .i64 p0, .int .i64 p1] 64) := ⟨_, rfl⟩
        rw [← hV] at z3 z4 hA ownV ⊢
        have hBV := hB.next hA
        clear hV hown h1 h2
        have hm63 : m + 1 ≤ maxLen := by unfold maxLen; omega
        have hby : (m + 1) * 16 ≤ 140737488355328 := by omega
        have hszV := hBV.size
        have ownX : ∀ o, (V.alloc o).ownsRow w2.heap.size 64 2 u5 m (flat (cutE (v : Int) (es.take q))) := fun o => ownV.alloc o
        go_region_held3 (fun W' => W'.cell? ⟨wr.heap.size, 0, none⟩ = some (.int .i64 p0) ∧ W'.cell? ⟨wr.heap.size, 1, none⟩ = some (.int .i64 p1))
          (first | (exact ⟨z3, z4⟩) | (exact ⟨z3c, z4c⟩) | go_keep)
          (first
            | (go_at_call_of 110 p0; refine (vertexWithout _ p0 _ hv0 i1).mono ?_; rintro e w5 ⟨rfl, ⟨md5, rfl⟩⟩)
            | (go_at_call_of 110 p1; refine (vertexWithout _ p1 _ hv0 i2).mono ?_; rintro e w6 ⟨rfl, ⟨md6, rfl⟩⟩)
            | (refine step_append_lies _ rfl (.tmp 25) (.tmp 35) 61 rfl w2.heap.size 64 i0 (.agg #[.int .i64 0, .int .i64 0]) 2 16 Try.underlying61 hi' z0 z1 z2 rfl (by decide) u5 m (flat (cutE (v : Int) (es.take q))) (by simp [Act.eval, Act.put]) (ownX _) ⟨V.heap.size, 0, none⟩ 1 1 [.int .i64 (low (v : Int) p0), .int .i64 (low (v : Int) p1)] (by simp [Act.eval, Act.put]) rfl (fun j u hj => by have := news2 V 64 (.int .i64 (low (v : Int) p0)) (.int .i64 (low (v : Int) p1)) j u hj; exact this) (fun u hu => by simp at hu; rcases hu with rfl | rfl <;> rfl) (by decide) hm63 hby (by simp; omega) (V.heap.size + 1) (by simp) ?_; intro g2 c3 w3 hown3 hgr hlie hlt3; have hgr2 : (V.alloc (.cells #[.int .i64 (low (v : Int) p0), .int .i64 (low (v : Int) p1)] 64)).grownBy w3 u5.ownBlock := ⟨hgr.os, hgr.tape, hgr.output, hgr.size, hgr.block⟩; have hcc := grown_own hBV ownV (Nat.le_refl _) hgr2; have z3c : w3.cell? ⟨wr.heap.size, 0, none⟩ = some (.int .i64 p0) := hgr2.cell (((Below.refl V.heap.size V).alloc (Nat.le_refl _) _).keep z3) (fun e => by have := (HOWN.out.1.lt wr.heap.size e.symm).2; omega); have z4c : w3.cell? ⟨wr.heap.size, 1, none⟩ = some (.int .i64 p1) := hgr2.cell (((Below.refl V.heap.size V).alloc (Nat.le_refl _) _).keep z4) (fun e => by have := (HOWN.out.1.lt wr.heap.size e.symm).2; omega)))
        all_goals
          obtain ⟨hB3, hz3, _, _⟩ := hcc
          have e9 : flat (cutE (v : Int) (es.take q)) ++ [.int .i64 (low (v : Int) p0), .int .i64 (low (v : Int) p1)] = flat (cutE (v : Int) (es.take (q + 1))) := by rw [HST.out, flat_snoc]
          rw [e9] at hown3
          have e8 : (cutE (v : Int) (es.take (q + 1))).length = m + 1 := by rw [HST.out, List.length_append, HOWN.out.2.1]; rfl
          have HF := Lib.hid (⟨e8, hown3, hB3⟩ : _ ∧ _ ∧ _)
          clear e9 e8 hown3 hB3 hgr hgr2 hlie ownX ownV
          go_wp2
          go_roundw
          case rel => exact ⟨q+1, m+1, by omega, by go_num, by omega, HF.out⟩
          case measure => simp [intOf]; omega
      · have hor : p0 = (v : Int) ∨ p1 = (v : Int) := by
          by_cases e : p0 = (v : Int)
          · exact .inl e
          · exact .inr (Classical.byContradiction fun e2 => hoff ⟨e, e2⟩)
        have hst := hout hor
        rw [← hst] at hown hml
        have hA := (Below.refl wr.heap.size wr).alloc (Nat.le_refl _) (.cells #[.int .i64 p0, .int .i64 p1] 64)
        have HF := Lib.hid (⟨hml, ownsRow_chg hown (hA.chg 0 0) (fun _ _ => .inr (Nat.zero_le _)), hB.next hA⟩ : _ ∧ _ ∧ _)
        by_cases hf0 : p0 = (v : Int)
        · have hb1 : (p0 != (v : Int)) = false := by simpa using hf0
          clear hin hout hst hoff hor hf0 hown hml hA
          go_wp2
          go_roundw
          case rel => exact ⟨q+1, m, by omega, by go_num, by omega, HF.out⟩
          case measure => simp [intOf]; omega
        · have hf1 : p1 = (v : Int) := hor.elim (fun e => absurd e hf0) id
          have hb1 : (p0 != (v : Int)) = true := by simpa using hf0
          have hb2' : (p1 != (v : Int)) = false := by simpa using hf1
          clear hin hout hst hoff hor hf0 hf1 hown hml hA
          go_wp2
          go_roundw
          case rel => exact ⟨q+1, m, by omega, by go_num, by omega, HF.out⟩
          case measure => simp [intOf]; omega
    · obtain rfl : q = n := by omega
      rw [List.take_of_length_le (by rw [HEL.out]; exact Nat.le_refl _)] at hown hml
      obtain ⟨ao, co, hkv⟩ : ∃ ao co, u5 = .slice ao m co := by
        rcases hown.2 with ⟨h, h'⟩ | ⟨g, cap, cur, h, _⟩
        · exact ⟨none, 0, by rw [h, h']⟩
        · exact ⟨_, _, h⟩
      subst hkv
      have hE := RdE.mk hown hml
      obtain ⟨k1, k3, k4, f3, f4, hBB⟩ := HK.out
      replace k1 := hB.keep k1
      replace k3 := hB.keep k3
      replace k4 := hB.keep k4
      replace f3 := hB.keepf hz2 f3
      replace f4 := hB.keepf hz2 f4
      have hBW := hBB.next hB
      have hzr : R < wr.heap.size := Nat.lt_of_lt_of_le hz2 hB.size
      have hsw : IntKind.i64.wrap ((S : Int) - 1) = (S : Int) - 1 := IntWalk.i64_in _ (by omega)
      have hI2 : ∀ j, j < m → I64 ((cutE (v : Int) es).getD j (0, 0)).1 ∧ I64 ((cutE (v : Int) es).getD j (0, 0)).2 := fun j hj => HI.out j (by rw [hml]; exact hj)
      have HH := Lib.hid (⟨hE, hml, hI2, hBW⟩ : _ ∧ _ ∧ _ ∧ _)
      clear hown hml hE hI2 hBW hB hBB
      go_wp2_with fail
      refine (graphWith ((S : Int) - 1) ao m co (cutE (v : Int) es) _ HH.out.1 HH.out.2.1 (by omega) HH.out.2.2.1).mono ?_
      rw [HU.out]
      rintro e w8 ⟨a8, c8, rfl, o8, b8⟩
      replace k3 := b8.keep k3
      replace k4 := b8.keep k4
      replace f3 := b8.keepf hzr f3
      replace f4 := b8.keepf hzr f4
      have hB8 := HH.out.2.2.2.next b8
      have hz8 := b8.size
      clear b8 k1
      go_wp2
      refine bodyPost_ret (v := .agg #[.int .i64 ((S : Int) - 1), .slice a8 F.length c8]) (by simp [results, Try.results88, go_sem, k3, k4]) rfl ⟨a8, c8, rfl, ?_, ?_⟩
      · refine (OwR.chg (lo' := w.heap.size) (hi' := wr.heap.size) o8 ?_ (.inr (Nat.le_refl _))).mono (by omega) (by simp [World.setCell])
        repeat (refine Chg.setCell ?_ (by constructor <;> simp <;> omega) _)
        exact Chg.refl _ _ _
      · repeat (refine Below.setCell ?_ (by simp <;> omega) _)
        exact hB8

end Go.Proofs.Ytecobmmlpoaggaa
