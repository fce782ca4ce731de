/- Edges, firsts and labels of graphs of up to 32 vertices and 40 edges. -/
import Derived.Test.YtlahfglblgppgaaSpecParts
import Derived.Deep.RegionHeld3
set_option linter.unusedSimpArgs false
set_option linter.unusedVariables false
namespace Go.Proofs.Ytlahfglblgppgaa
open Go.RowKit

def grW (s : Int) (xss : List (List Int)) : Bool := decide (1 ≤ s) && (decide (s ≤ 32) && (decide (xss.length ≤ 40) && xss.all (edgeOk s)))
theorem grW_iff {s : Int} {xss : List (List Int)} (h : grW s xss = true) : 1 ≤ s ∧ s ≤ 32 ∧ xss.length ≤ 40 ∧ ∀ j, j < xss.length → (xss.getD j []).length = 2 ∧ 0 ≤ (xss.getD j []).getD 0 0 ∧ (xss.getD j []).getD 0 0 < s ∧ 0 ≤ (xss.getD j []).getD 1 0 ∧ (xss.getD j []).getD 1 0 < s := by
  unfold grW at h
  simp only [Bool.and_eq_true, decide_eq_true_eq, List.all_eq_true] at h
  obtain ⟨h1, h2, h3, h4⟩ := h
  refine ⟨h1, h2, h3, fun j hj => ?_⟩
  have := h4 _ (List.getElem_mem hj)
  have e : xss.getD j [] = xss[j] := by simp [List.getD, List.getElem?_eq_getElem hj]
  rw [e]
  simp only [edgeOk, inR, Bool.and_eq_true, decide_eq_true_eq] at this
  omega

theorem nE_getW {s : Int} {xss : List (List Int)} (h : grW s xss = true) {k : Nat} (hk : k < xss.length) : ((nE xss).getD k (0, 0)).1 = ((pairs xss).getD k (0, 0)).1.toNat ∧ ((nE xss).getD k (0, 0)).2 = ((pairs xss).getD k (0, 0)).2.toNat := by
  have : k < (pairs xss).length := by rw [pairs_len]; exact hk
  simp [nE, List.getD, List.getElem?_eq_getElem this]
theorem nE_inW {s : Nat} {xss : List (List Int)} (h : grW (s : Int) xss = true) : ∀ e ∈ nE xss, e.1 < s ∧ e.2 < s := by
  intro e he
  simp only [nE, pairs, List.map_map, List.mem_map] at he
  obtain ⟨r, hr, rfl⟩ := he
  obtain ⟨i, hi, rfl⟩ := List.getElem_of_mem hr
  have := (grW_iff h).2.2.2 i hi
  have e1 : xss.getD i [] = xss[i] := by simp [List.getD, List.getElem?_eq_getElem hi]
  rw [e1] at this
  simp only [Function.comp]
  omega

theorem edgesOf_neW (n b off cap : Nat) (s : Int) (xss : List (List Int)) {lo hi : Nat} (w : World) (hn : n ≤ 40) (hx : xss.length = n) (h2 : ∀ j, j < n → (xss.getD j []).length = 2)
    (hc : ∀ j, j < n → ∃ rv, w.cell? ⟨b, off + j, none⟩ = some rv ∧ RdI lo hi w rv (xss.getD j [])) :
    Calls Try.prog 126 #[.agg #[.int .i64 s, .slice (some ⟨b, off, none⟩) n cap]] w fun e w' => ∃ v, e = .returned v ∧ w'.ownsRow w.heap.size 128 2 v n (flat (pairs xss)) ∧ Below w.heap.size w w' := by
  obtain ⟨i0, hi', z0, z1, z2⟩ := info_parts Try.info128
  have hb0 : ∀ o, Below w.heap.size w (w.alloc o) := fun o => (Below.refl _ _).alloc (Nat.le_refl _) o
  have HX := Lib.hid hx
  have HC := Lib.hid hc
  have H2 := Lib.hid h2
  clear hx hc h2
  go_enter Try.func126, Try.ntmps126
  go_wp2_with (at_make; refine wpList_make_full _ rfl _ _ 125 rfl (w.heap.size + 1) 128 i0 (.agg #[.int .i64 0, .int .i64 0]) 2 Try.underlying125 hi' z0 z1 _ _ _ _ n rfl rfl rfl rfl ?c1 ?c2 ?c3 ?_)
  case c1 => rw [z2]; omega
  case c2 => unfold maxLen; omega
  case c3 => simp
  intro w1 hown hgr
  rw [setE_zero n] at hown
  have hbl : Below w.heap.size w w1 := (hb0 _).grown hgr (by simp) (by simp)
  have k2 : w1.cell? ⟨w.heap.size, 1, none⟩ = some (.slice (some ⟨b, off, none⟩) n cap) := hgr.cell (by go_simp) (by simp)
  have hz : w.heap.size + 1 < w1.heap.size := (hown.lt _ rfl).2
  clear hgr
  go_wp2
  go_loopw [13, 4, 5] (fun i _ _ wr => ∃ k : Nat, k ≤ n ∧ i = .int .i64 k ∧ wr.ownsRow (w.heap.size + 1) 128 2 (.slice (some ⟨w.heap.size + 1, 0, none⟩) n n) n (setE ((pairs xss).take k) n) ∧ Below w.heap.size w wr ∧ w.heap.size + 1 < wr.heap.size) (fun i _ _ _ => n - (intOf i).toNat)
  case atStart => exact ⟨0, Nat.zero_le _, rfl, hown, hbl, hz⟩
  case round =>
    clear hown hbl k2 hz
    obtain ⟨k, hk, rfl, hown, hbl, hz⟩ := hrel
    by_cases hlt : k < n
    · obtain ⟨rv, h1, r1⟩ := HC.out k hlt
      replace h1 := hbl.keep h1
      replace r1 := r1.below hbl
      have hlt' : k < xss.length := by rw [HX.out]; exact hlt
      obtain ⟨b', off', cap', rfl, g1, g2⟩ := r1.two (H2.out k hlt)
      have hlen : ((pairs xss).take k).length = k := by rw [List.length_take, pairs, List.length_map]; omega
      have c0 := (hown.cellAt (k * 2) (by omega)).trans (setE_get _ n k 0 hlen hlt (by omega))
      have c1 := (hown.cellAt (k * 2 + 1) (by omega)).trans (setE_get _ n k 1 hlen hlt (by omega))
      have f0 := hown.frozenAt (k * 2)
      have f1 := hown.frozenAt (k * 2 + 1)
      generalize hx0 : (xss.getD k []).getD 0 0 = x0 at *
      generalize hx1 : (xss.getD k []).getD 1 0 = x1 at *
      have H0 := Lib.hid hx0
      have H1 := Lib.hid hx1
      have HL := Lib.hid hlen
      have hat := arrAt ⟨b', off', none⟩ cap'
      clear hx0 hx1 hlen r1
      go_wp2
      have hst := (hown.stored (k * 2) (.int .i64 x0)).1.stored (k * 2 + 1) (.int .i64 x1)
      have e1 : (pairs xss).take (k+1) = (pairs xss).take k ++ [(x0, x1)] := by
        rw [List.take_add_one, List.getElem?_eq_getElem (by rw [pairs, List.length_map]; exact hlt')]
        simp only [pairs, List.getElem_map, ← H0.out, ← H1.out]
        simp [List.getD, List.getElem?_eq_getElem hlt']
      go_roundw
      case rel =>
        refine ⟨k+1, by omega, by go_num, ?_, (hbl.setCell (by simp) _).setCell (by simp) _, by simp [World.setCell]; exact hz⟩
        rw [e1, ← setE_step _ (x0, x1) n k HL.out hlt]
        exact hst.1
      case measure => simp [intOf]; omega
    · go_wp2
      go_ret
      obtain rfl : k = n := by omega
      have e1 : setE ((pairs xss).take k) k = flat (pairs xss) := by
        have : (pairs xss).length = k := by rw [pairs, List.length_map]; exact HX.out
        rw [List.take_of_length_le (by omega)]
        simp [setE, this]
      rw [e1] at hown
      exact ⟨_, rfl, ownsRow_mono hown (Nat.le_succ _), hbl⟩

theorem edgesOfW {lo hi : Nat} (s : Int) (a : Option Addr) (n c : Nat) (xss : List (List Int)) (w : World) (h : RdR lo hi w (.slice a n c) xss) (hg : grW s xss = true) (hn : xss.length = n) :
    Calls Try.prog 126 #[.agg #[.int .i64 s, .slice a n c]] w fun e w' => ∃ a' c', e = .returned (.slice a' n c') ∧ w'.ownsRow w.heap.size 128 2 (.slice a' n c') n (flat (pairs xss)) ∧ Below w.heap.size w w' := by
  obtain ⟨_, _, h3, h4⟩ := grW_iff hg
  have fin : ∀ (e : Ending) (w' : World) v, e = .returned v → w'.ownsRow w.heap.size 128 2 v n (flat (pairs xss)) → Below w.heap.size w w' → ∃ a' c', e = .returned (.slice a' n c') ∧ w'.ownsRow w.heap.size 128 2 (.slice a' n c') n (flat (pairs xss)) ∧ Below w.heap.size w w' := by
    intro e w' v he ho hb
    have ho' := ho
    rcases ho.2 with ⟨hv, h0⟩ | ⟨g, cap, cur, hv, _⟩
    · subst hv; subst h0; exact ⟨none, 0, he, ho', hb⟩
    · subst hv; exact ⟨_, cap, he, ho', hb⟩
  obtain ⟨_, ⟨a', cap, rfl, hv⟩ | ⟨b, off, cap, hv, _, _, _, hc⟩⟩ := h
  · simp only [Value.slice.injEq] at hv
    obtain ⟨_, rfl, _⟩ := hv
    exact (edgesOf_nil a c s w).mono fun e w' ⟨v, he, ho, hb⟩ => fin e w' v he ho hb
  · simp only [Value.slice.injEq] at hv
    obtain ⟨rfl, rfl, rfl⟩ := hv
    exact (edgesOf_neW _ b off c s xss w h3 rfl (fun j hj => (h4 j hj).1) hc).mono fun e w' ⟨v, he, ho, hb⟩ => fin e w' v he ho hb

set_option maxHeartbeats 3200000 in
theorem firstsOfW {lo hi : Nat} (S : Nat) (a : Option Addr) (n c : Nat) (xss : List (List Int)) (w : World) (h : RdR lo hi w (.slice a n c) xss) (hn : xss.length = n) (hg : grW (S : Int) xss = true) :
    Calls Try.prog 108 #[.agg #[.int .i64 (S : Int), .slice a n c]] w fun e w' => ∃ a' c', e = .returned (.slice a' S c') ∧ OwI w.heap.size w'.heap.size w' (.slice a' S c') (zs (labelsN S (nE xss))) ∧ Below w.heap.size w w' := by
  obtain ⟨i0, hi', z0, z1, z2⟩ := info_parts Try.info2
  have hb0 : ∀ o, Below w.heap.size w (w.alloc o) := fun o => (Below.refl _ _).alloc (Nat.le_refl _) o
  obtain ⟨hs1, hs2, h3, h4⟩ := grW_iff hg
  have hn10 : n ≤ 40 := by omega
  have hS1 : 1 ≤ S := by omega
  have hS8 : S ≤ 32 := by omega
  obtain ⟨es, hes⟩ : ∃ es, es = nE xss := ⟨_, rfl⟩
  have HLAB := Lib.hid (rounds_labels (s := S) (nE_inW hg))
  have HIN := Lib.hid (nE_inW hg)
  have HEG := Lib.hid (fun k (hk : k < xss.length) => nE_getW hg hk)
  have HGI := Lib.hid (fun k (hk : k < xss.length) => h4 k hk)
  rw [← hes] at HLAB HIN HEG
  rw [← hes]
  have HEL := Lib.hid (show es.length = n by rw [hes, nE_len]; exact hn)
  have HN := Lib.hid hn
  have HG := Lib.hid hg
  clear hn hg h3 h4 hes
  go_enter Try.func108, Try.ntmps108
  go_wp2_with (at_make; refine wpList_make_full _ rfl _ _ 26 rfl (w.heap.size + 1) 2 i0 (.int .i64 0) 1 Try.underlying26 hi' z0 z1 _ _ _ _ S rfl rfl rfl rfl ?c1 ?c2 ?c3 ?_)
  case c1 => rw [z2]; omega
  case c2 => unfold maxLen; omega
  case c3 => simp
  intro w1 hown hgr
  rw [setTo_zero (zs (List.range S)) S] at hown
  have hbl : Below w.heap.size w w1 := (hb0 _).grown hgr (by simp) (by simp)
  have k0 : w1.cell? ⟨w.heap.size, 0, none⟩ = some (.int .i64 (S : Int)) := hgr.cell (by go_simp) (by simp)
  have k1 : w1.cell? ⟨w.heap.size, 1, none⟩ = some (.slice a n c) := hgr.cell (by go_simp) (by simp)
  have hz : w.heap.size + 1 < w1.heap.size := (hown.lt _ rfl).2
  have hzl : (zs (List.range S)).length = S := by simp [zs]
  have HZL := Lib.hid hzl
  clear hgr hzl
  go_wp2
  go_loopw [13] (fun i wr => ∃ k : Nat, k ≤ S ∧ i = .int .i64 k ∧ wr.ownsRow (w.heap.size + 1) 2 1 (.slice (some ⟨w.heap.size + 1, 0, none⟩) S S) S (setTo (zs (List.range S)) k S) ∧ Below w.heap.size w wr ∧ w.heap.size + 1 < wr.heap.size ∧
    wr.cell? ⟨w.heap.size, 0, none⟩ = some (.int .i64 (S : Int)) ∧ wr.cell? ⟨w.heap.size, 1, none⟩ = some (.slice a n c)) (fun i _ => S - (intOf i).toNat)
  case atStart => exact ⟨0, Nat.zero_le _, rfl, hown, hbl, hz, k0, k1⟩
  case round =>
    clear hown hbl hz k0 k1
    obtain ⟨k, hk, rfl, hown, hbl, hz, k0, k1⟩ := hrel
    by_cases hlt : k < S
    · have h3 := (hown.cellAt k (by omega)).trans (setTo_get (zs (List.range S)) k S HZL.out hlt)
      have h4 := hown.frozenAt k
      have hst := (hown.stored k (.int .i64 ((zs (List.range S)).getD k 0))).1
      have e1 : (zs (List.range S)).getD k 0 = (k : Int) := by rw [zs_get (by simpa using hlt), lab_range hlt]
      rw [setTo_step (zs (List.range S)) k S HZL.out hlt, e1] at hst
      have hch : Chg (w.heap.size + 1) (w.heap.size + 1 + 1) wr (wr.setCell ⟨w.heap.size + 1, k, none⟩ (.int .i64 (k : Int))) := (Chg.refl (w.heap.size + 1) (w.heap.size + 1 + 1) wr).setCell (p := ⟨w.heap.size + 1, k, none⟩) ⟨Nat.le_refl _, Nat.lt_succ_self _⟩ _
      have HF := Lib.hid (⟨hst, hbl.chgn hch (Nat.le_succ _) hbl.size, Nat.lt_of_lt_of_le hz hch.size, hch.cell k0 (.inl (Nat.lt_succ_self _)), hch.cell k1 (.inl (Nat.lt_succ_self _))⟩ : _ ∧ _ ∧ _ ∧ _ ∧ _)
      clear hst hch e1 hown
      go_wp2
      go_roundw
      case rel => exact ⟨k+1, by omega, by go_num, HF.out⟩
      case measure => simp [intOf]; omega
    · obtain rfl : k = S := by omega
      rw [setTo_all (zs (List.range k)) k HZL.out] at hown
      go_wp2
      go_loopw [23] (fun i wr => ∃ r : Nat, r ≤ k ∧ i = .int .i64 r ∧ wr.ownsRow (w.heap.size + 1) 2 1 (.slice (some ⟨w.heap.size + 1, 0, none⟩) k k) k (vz (roundsN es r (List.range k))) ∧ Below w.heap.size w wr ∧ w.heap.size + 1 < wr.heap.size ∧
        wr.cell? ⟨w.heap.size, 0, none⟩ = some (.int .i64 (k : Int)) ∧ wr.cell? ⟨w.heap.size, 1, none⟩ = some (.slice a n c)) (fun i _ => k - (intOf i).toNat)
      case atStart => exact ⟨0, Nat.zero_le _, rfl, hown, hbl, hz, k0, k1⟩
      case round =>
        clear hown hbl hz k0 k1
        obtain ⟨r, hr, rfl, hown, hbl, hz, k0, k1⟩ := hrel
        by_cases hlr : r < k
        · go_wp2_with fail
          refine (edgesOfW _ a n c xss _ (h.below hbl) HG.out HN.out).mono ?_
          rintro e w2 ⟨a2, c2, rfl, o2, b2⟩
          replace k0 := b2.keep k0
          replace k1 := b2.keep k1
          have hown2 := ownsRow_chg hown (b2.chg 0 0) (fun _ _ => .inr (Nat.zero_le _))
          have hbl2 := hbl.next b2
          have hz2 : w.heap.size + 1 < w2.heap.size := Nat.lt_of_lt_of_le hz b2.size
          have hE := RdE.mk o2 (by rw [pairs_len]; exact HN.out)
          have hE2 : ∀ j, j < n → ∃ b, a2 = some ⟨b, 0, none⟩ ∧ w.heap.size + 1 + 1 ≤ b ∧ b < w2.heap.size ∧ w2.cell? ⟨b, j * 2, none⟩ = some (.int .i64 ((pairs xss).getD j (0, 0)).1) ∧ w2.cell? ⟨b, j * 2 + 1, none⟩ = some (.int .i64 ((pairs xss).getD j (0, 0)).2) := by
            intro j hj
            obtain ⟨b, e1, e2, e3, e4⟩ := hE j (by rw [pairs_len, HN.out]; exact hj)
            obtain ⟨g, cap, hv, hlo, _⟩ := o2.form (by omega)
            simp only [Value.slice.injEq] at hv
            rw [e1] at hv
            simp only [Option.some.injEq, Addr.mk.injEq] at hv
            exact ⟨b, e1, by omega, e2, e3, e4⟩
          have HE := Lib.hid hE2
          clear o2 b2 hE hE2 hown hbl hz
          have hfl : (roundsN es r (List.range k)).length = k := by rw [roundsN_len]; simp
          obtain ⟨F0, hF0⟩ : ∃ F0, F0 = roundsN es r (List.range k) := ⟨_, rfl⟩
          rw [← hF0] at hown2 hfl
          have HF0 := Lib.hid hF0
          clear hF0
          have hown3 : w2.ownsRow (w.heap.size + 1) 2 1 (.slice (some ⟨w.heap.size + 1, 0, none⟩) k k) k (vz ((es.take 0).foldl relaxN F0)) := hown2
          clear hown2
          go_wp2
          go_loopw [28] (fun i wr => ∃ q : Nat, q ≤ n ∧ i = .int .i64 q ∧ wr.ownsRow (w.heap.size + 1) 2 1 (.slice (some ⟨w.heap.size + 1, 0, none⟩) k k) k (vz ((es.take q).foldl relaxN F0)) ∧ Below w.heap.size w wr ∧ w.heap.size + 1 < wr.heap.size ∧
            wr.cell? ⟨w.heap.size, 0, none⟩ = some (.int .i64 (k : Int)) ∧ wr.cell? ⟨w.heap.size, 1, none⟩ = some (.slice a n c) ∧ Chg (w.heap.size + 1) (w.heap.size + 1 + 1) w2 wr) (fun i _ => n - (intOf i).toNat)
          case atStart => exact ⟨0, Nat.zero_le _, rfl, hown3, hbl2, hz2, k0, k1, Chg.refl _ _ _⟩
          case round =>
            clear hown3 hbl2 k0 k1
            obtain ⟨q, hq, rfl, hown, hbl, hz, k0, k1, hcg⟩ := hrel
            by_cases hlq : q < n
            · obtain ⟨b, rfl, hXb, hb2, h1, h2⟩ := HE.out q hlq
              replace h1 := hcg.cell h1 (.inr hXb)
              replace h2 := hcg.cell h2 (.inr hXb)
              obtain ⟨g1, g2⟩ := HEG.out q (by rw [HN.out]; exact hlq)
              have hgi := HGI.out q (by rw [HN.out]; exact hlq)
              have hfs := fold_snoc relaxN es F0 q (0, 0) (by rw [HEL.out]; exact hlq)
              rw [pairs_get (by rw [HN.out]; exact hlq)] at h1 h2 g1 g2
              simp only at h1 h2 g1 g2
              have hFl : ((es.take q).foldl relaxN F0).length = k := by rw [foldr_len]; exact hfl
              generalize (es.take q).foldl relaxN F0 = F at *
              have hrl : relaxN F (es.getD q (0, 0)) = (F.set (es.getD q (0, 0)).1 (min (lab F (es.getD q (0, 0)).1) (lab F (es.getD q (0, 0)).2))).set (es.getD q (0, 0)).2 (min (lab F (es.getD q (0, 0)).1) (lab F (es.getD q (0, 0)).2)) := rfl
              generalize es.getD q (0, 0) = e at *
              obtain ⟨P0, P1⟩ := e
              simp only at g1 g2 hrl
              have hp0 : (xss.getD q []).getD 0 0 = (P0 : Int) := by omega
              have hp1 : (xss.getD q []).getD 1 0 = (P1 : Int) := by omega
              rw [hp0] at h1 hgi
              rw [hp1] at h2 hgi
              have hk0 : P0 < k := by omega
              have hk1 : P1 < k := by omega
              have c0 := (hown.cellAt P0 (by omega)).trans (vz_get (by omega))
              have c1 := (hown.cellAt P1 (by omega)).trans (vz_get (by omega))
              have f0 := hown.frozenAt P0
              have f1 := hown.frozenAt P1
              rw [← hfs] at hrl
              have hmin : lowI (lab F P0 : Int) (lab F P1 : Int) = ((min (lab F P0) (lab F P1) : Nat) : Int) := by unfold lowI; split <;> omega
              generalize hx0 : ((lab F P0 : Nat) : Int) = x0 at *
              generalize hx1 : ((lab F P1 : Nat) : Int) = x1 at *
              have HRL := Lib.hid hrl
              have HMIN := Lib.hid hmin
              have HOWN := Lib.hid hown
              have HK := Lib.hid (⟨k0, k1, hbl, hcg⟩ : _ ∧ _ ∧ _ ∧ _)
              clear hx0 hx1 hrl hmin hfs hp0 hp1 hgi g1 g2 hown hFl hbl hcg
              go_wp2
              have hA := (Below.refl wr.heap.size wr).alloc (Nat.le_refl _) (.cells #[.int .i64 (P0 : Int), .int .i64 (P1 : Int)] 128)
              have y0 := hA.keep c0
              have y1 := hA.keep c1
              have y2 : (wr.alloc (.cells #[.int .i64 (P0 : Int), .int .i64 (P1 : Int)] 128)).cell? ⟨wr.heap.size, 0, none⟩ = some (.int .i64 (P0 : Int)) := by go_simp
              have y3 : (wr.alloc (.cells #[.int .i64 (P0 : Int), .int .i64 (P1 : Int)] 128)).cell? ⟨wr.heap.size, 1, none⟩ = some (.int .i64 (P1 : Int)) := by go_simp
              have y4 := hA.keepf (show w.heap.size + 1 < wr.heap.size from hz) f0
              have y5 := hA.keepf (show w.heap.size + 1 < wr.heap.size from hz) f1
              have hownV := ownsRow_chg HOWN.out (hA.chg 0 0) (fun _ _ => .inr (Nat.zero_le _))
              obtain ⟨V, hV⟩ : ∃ V, V = wr.alloc (.cells #[.int .i64 (P0 : Int), .int .i64 (P1 : Int)] 128) := ⟨_, rfl⟩
              have hzV : wr.heap.size < V.heap.size := by rw [hV]; simp
              rw [← hV] at y0 y1 y2 y3 y4 y5 hA hownV ⊢
              have HVO := Lib.hid (⟨hA, hownV⟩ : _ ∧ _)
              have hne1 : ¬ w.heap.size + 1 = wr.heap.size := by omega
              have hne2 : ¬ wr.heap.size = w.heap.size + 1 := by omega
              clear hV hA hownV c0 c1 f0 f1 h1 h2 k0 k1
              go_region_held3 (fun W' => W'.cell? ⟨wr.heap.size, 0, none⟩ = some (.int .i64 (P0 : Int)) ∧ W'.cell? ⟨wr.heap.size, 1, none⟩ = some (.int .i64 (P1 : Int)) ∧ W'.cell? ⟨w.heap.size + 1, P0, none⟩ = some (.int .i64 x0) ∧ W'.cell? ⟨w.heap.size + 1, P1, none⟩ = some (.int .i64 x1))
                (first | (exact ⟨y2, y3, y0, y1⟩) | go_keep) (fail)
              have hme : (if x1 < x0 then x1 else x0) = lowI x0 x1 := rfl
              rw [hme, HMIN.out]
              generalize min (lab F P0) (lab F P1) = M at *
              clear hme HMIN
              have BUN : ∀ W', Chg (w.heap.size + 1) (w.heap.size + 1 + 1) V W' → W'.ownsRow (w.heap.size + 1) 2 1 (.slice (some ⟨w.heap.size + 1, 0, none⟩) k k) k (vz ((es.take (q+1)).foldl relaxN F0)) → (W'.ownsRow (w.heap.size + 1) 2 1 (.slice (some ⟨w.heap.size + 1, 0, none⟩) k k) k (vz ((es.take (q+1)).foldl relaxN F0)) ∧ Below w.heap.size w W' ∧ w.heap.size + 1 < W'.heap.size ∧ W'.cell? ⟨w.heap.size, 0, none⟩ = some (.int .i64 (k : Int)) ∧ W'.cell? ⟨w.heap.size, 1, none⟩ = some (.slice a n c) ∧ Chg (w.heap.size + 1) (w.heap.size + 1 + 1) w2 W') := by
                intro W' hc ho
                obtain ⟨k0, k1, hbl, hcg⟩ := HK.out
                have hc2 := (HVO.out.1.chg (w.heap.size + 1) (w.heap.size + 1 + 1)).trans hc
                exact ⟨ho, hbl.chgn hc2 (Nat.le_succ _) hbl.size, Nat.lt_of_lt_of_le hz hc2.size, hc2.cell k0 (.inl (Nat.lt_succ_self _)), hc2.cell k1 (.inl (Nat.lt_succ_self _)), hcg.trans hc2⟩
              have CH : ∀ (U : World) (p : Nat) (v : Value), Chg (w.heap.size + 1) (w.heap.size + 1 + 1) U (U.setCell ⟨w.heap.size + 1, p, none⟩ v) := fun U p v => (Chg.refl (w.heap.size + 1) (w.heap.size + 1 + 1) U).setCell (p := ⟨w.heap.size + 1, p, none⟩) ⟨Nat.le_refl _, Nat.lt_succ_self _⟩ v
              have hs1 := (HVO.out.2.stored P0 (.int .i64 (M : Int))).1
              have hs2 := (hs1.stored P1 (.int .i64 (M : Int))).1
              have hs3 := ((HVO.out.2.stored P1 (.int .i64 (M : Int))).1.stored P0 (.int .i64 (M : Int))).1
              rw [vz_set] at hs1
              rw [vz_set, vz_set] at hs2 hs3
              rw [relax_comm] at hs3
              rw [← HRL.out] at hs2 hs3
              have HB1 := Lib.hid (BUN (World.drew (World.drew _)) (((CH _ _ _).trans (CH _ _ _)).trans ((Qt.refl _).drew.drew.chg _ _)) hs2)
              have HB2 := Lib.hid (BUN (World.drew (World.drew _)) (((CH _ _ _).trans (CH _ _ _)).trans ((Qt.refl _).drew.drew.chg _ _)) hs3)
              clear BUN CH hs1 hs2 hs3 HK HVO
              by_cases hPP : P0 = P1
              case pos =>
                subst hPP
                go_wp2
                go_region_held3 (fun W' => W'.cell? ⟨wr.heap.size, 0, none⟩ = some (.int .i64 (P0 : Int)) ∧ W'.cell? ⟨wr.heap.size, 1, none⟩ = some (.int .i64 (P0 : Int)))
                  (first | (exact ⟨y2, y3⟩) | go_keep) (fail)
                all_goals
                  go_wp2
                  go_roundw
                  case rel => exact ⟨q+1, by omega, by go_num, by first | exact HB1.out | exact HB2.out⟩
                  case measure => simp [intOf]; omega
              case neg =>
                have hPP2 : ¬ P1 = P0 := fun e => hPP e.symm
                go_wp2
                go_region_held3 (fun W' => W'.cell? ⟨wr.heap.size, 0, none⟩ = some (.int .i64 (P0 : Int)) ∧ W'.cell? ⟨wr.heap.size, 1, none⟩ = some (.int .i64 (P1 : Int)))
                  (first | (exact ⟨y2, y3⟩) | go_keep) (fail)
                all_goals
                  go_wp2
                  go_roundw
                  case rel => exact ⟨q+1, by omega, by go_num, by first | exact HB1.out | exact HB2.out⟩
                  case measure => simp [intOf]; omega
            · obtain rfl : q = n := by omega
              rw [List.take_of_length_le (by rw [HEL.out]; exact Nat.le_refl _)] at hown
              have hown2 : wr.ownsRow (w.heap.size + 1) 2 1 (.slice (some ⟨w.heap.size + 1, 0, none⟩) k k) k (vz (roundsN es (r + 1) (List.range k))) := by
                have e : roundsN es (r + 1) (List.range k) = es.foldl relaxN F0 := by rw [HF0.out]; rfl
                rw [e]; exact hown
              clear hown
              go_wp2
              go_roundw
              case rel => exact ⟨r+1, by omega, by go_num, hown2, hbl, hz, k0, k1⟩
              case measure => simp [intOf]; omega
        · obtain rfl : r = k := by omega
          rw [HLAB.out] at hown
          have hI : ∀ x ∈ zs (labelsN r es), I64 x := by
            intro x hx
            obtain ⟨v, hv, rfl⟩ := List.getElem_of_mem hx
            have hL := labelsI HIN.out
            rw [zs_len, hL.len] at hv
            have := hL.le v hv
            have e : (zs (labelsN r es))[v]'(by rw [zs_len, hL.len]; exact hv) = (lab (labelsN r es) v : Int) := by rw [← zs_get (by rw [hL.len]; exact hv)]; simp [List.getD, List.getElem?_eq_getElem (show v < (zs (labelsN r es)).length by rw [zs_len, hL.len]; exact hv)]
            rw [e]; unfold I64; omega
          have hO : OwI (w.heap.size + 1) wr.heap.size wr (.slice (some ⟨w.heap.size + 1, 0, none⟩) r r) (zs (labelsN r es)) := .mk hown (by omega) hI
          have HO := Lib.hid hO
          clear hown hI hO
          go_wp2
          go_ret
          exact ⟨_, _, rfl, OwI.mono HO.out (Nat.le_succ _) (Nat.le_refl _), hbl⟩

set_option maxHeartbeats 6400000 in
theorem l01PartsW {lo hi : Nat} (S : Nat) (a : Option Addr) (n c : Nat) (xss : List (List Int)) (w : World) (h : RdR lo hi w (.slice a n c) xss) (hn : xss.length = n) (hg : grW (S : Int) xss = true) :
    Calls Try.prog 105 #[.agg #[.int .i64 (S : Int), .slice a n c]] w fun e w' => ∃ a' c', e = .returned (.slice a' S c') ∧ OwI w.heap.size w'.heap.size w' (.slice a' S c') (zs (labelsN S (nE xss))) ∧ Below w.heap.size w w' := by
  obtain ⟨i0, hi', z0, z1, z2⟩ := info_parts Try.info2
  have hb0 : ∀ o o', Below w.heap.size w ((w.alloc o).alloc o') := fun o o' => ((Below.refl _ _).alloc (Nat.le_refl _) o).alloc (by simp) o'
  obtain ⟨hs1, hs2, h3, h4⟩ := grW_iff hg
  have hn10 : n ≤ 40 := by omega
  have hS1 : 1 ≤ S := by omega
  have hS8 : S ≤ 32 := by omega
  obtain ⟨es, hes⟩ : ∃ es, es = nE xss := ⟨_, rfl⟩
  have HIN := Lib.hid (nE_inW hg)
  have HEG := Lib.hid (fun k (hk : k < xss.length) => nE_getW hg hk)
  have HGI := Lib.hid (fun k (hk : k < xss.length) => h4 k hk)
  have HCC := Lib.hid (h.at hn)
  rw [← hes] at HIN HEG
  rw [← hes]
  have HEL := Lib.hid (show es.length = n by rw [hes, nE_len]; exact hn)
  have HN := Lib.hid hn
  have hlit : (w.alloc (.cells #[.int .i64 (S : Int), .slice a n c] 29)).heap.size = w.heap.size + 1 := by simp
  have hl0 := World.ownsRow_lit (base := w.heap.size + 1) (e := 2) (size := 1) (w.alloc (.cells #[.int .i64 (S : Int), .slice a n c] 29)) #[] 0 (by rw [hlit]; exact Nat.le_refl _) (by unfold maxLen; omega) rfl
  rw [hlit] at hl0
  have HL := Lib.hid hl0
  clear hn hg h3 h4 hes h hl0 hlit
  go_enter Try.func105, Try.ntmps105
  go_wp2
  go_loopw [4, 3] (fun i v wr => ∃ k : Nat, k ≤ S ∧ i = .int .i64 k ∧ wr.ownsRow (w.heap.size + 1) 2 1 v k (vz (List.range k)) ∧ Below w.heap.size w wr ∧ w.heap.size + 1 < wr.heap.size ∧
    wr.cell? ⟨w.heap.size, 0, none⟩ = some (.int .i64 (S : Int)) ∧ wr.cell? ⟨w.heap.size, 1, none⟩ = some (.slice a n c)) (fun i _ _ => S - (intOf i).toNat)
  case atStart => exact ⟨0, Nat.zero_le _, rfl, HL.out, hb0 _ _, by simp, by go_simp, by go_simp⟩
  case round =>
    obtain ⟨k, hk, rfl, hown, hB, hz, k0, k1⟩ := hrel
    by_cases hlt : k < S
    · go_wp2_with (at_builtin; refine wpList_append_own _ rfl _ _ 26 rfl (w.heap.size + 1) 2 i0 (.int .i64 0) 1 8 Try.underlying26 hi' z0 z1 z2 rfl (by decide) _ _ _ rfl (hown.alloc _) ⟨wr.heap.size, 0, none⟩ 1 1 [.int .i64 (k : Int)] rfl rfl ?c1 ?c2 ?c3 ?c4 ?c5 ?_)
      case c1 =>
        intro j u hj
        have hj2 := news_one wr 2 (.int .i64 (k : Int)) j u hj
        have e0 : j = 0 := by
          have := (List.getElem?_eq_some_iff.1 hj).1
          simp only [List.length_cons, List.length_nil] at this; omega
        subst e0
        exact hj2
      case c2 => first | (intro u hu; simp at hu; subst hu; rfl) | rfl | simp
      case c3 => unfold maxLen; omega
      case c4 => omega
      case c5 => simp; omega
      intro v3 w3 hown3 hgr _
      obtain ⟨hB3, hz3, hcl, _⟩ := grown_own hB hown (Nat.le_succ _) hgr
      have q0 := hcl _ _ (show w.heap.size < w.heap.size + 1 by omega) k0
      have q1 := hcl _ _ (show w.heap.size < w.heap.size + 1 by omega) k1
      have e3 := zs_snoc_range k
      rw [← e3] at hown3
      have HF := Lib.hid (⟨hown3, hB3, Nat.lt_trans hz hz3, q0, q1⟩ : _ ∧ _ ∧ _ ∧ _ ∧ _)
      clear hgr hown e3 hown3 hB3 hcl q0 q1
      go_wp2
      go_roundw
      case rel => exact ⟨k+1, by omega, by go_num, HF.out⟩
      case measure => simp [intOf]; omega
    · obtain rfl : k = S := by omega
      obtain ⟨X, cap, hv, hX, hXl⟩ := hown.form (by omega)
      subst hv
      go_wp2
      go_loopw [5] (fun i wr => ∃ q : Nat, q ≤ n ∧ i = .int .i64 q ∧ wr.ownsRow (w.heap.size + 1) 2 1 (.slice (some ⟨X, 0, none⟩) k cap) k (vz ((es.take q).foldl mergeN (List.range k))) ∧ Below w.heap.size w wr ∧ X < wr.heap.size ∧
        wr.cell? ⟨w.heap.size, 0, none⟩ = some (.int .i64 (k : Int)) ∧ wr.cell? ⟨w.heap.size, 1, none⟩ = some (.slice a n c)) (fun i _ => n - (intOf i).toNat)
      case atStart => exact ⟨0, Nat.zero_le _, rfl, hown, hB, hXl, k0, k1⟩
      case round =>
        clear hown hB hXl k0 k1
        obtain ⟨q, hq, rfl, hown, hbl, hXl, k0, k1⟩ := hrel
        by_cases hlq : q < n
        · obtain ⟨b, off, rv, rfl, h1, r1⟩ := HCC.out q hlq
          obtain ⟨g1, g2⟩ := HEG.out q (by rw [HN.out]; exact hlq)
          have hgi := HGI.out q (by rw [HN.out]; exact hlq)
          obtain ⟨b', off', cap', rfl, h2, h3⟩ := r1.two hgi.1
          have hbw := World.block_lt_of_cell? w _ h1
          have hbw' := World.block_lt_of_cell? w _ h2
          replace h1 := hbl.keep h1
          replace h2 := hbl.keep h2
          replace h3 := hbl.keep h3
          have hfs := fold_snoc mergeN es (List.range k) q (0, 0) (by rw [HEL.out]; exact hlq)
          rw [pairs_get (by rw [HN.out]; exact hlq)] at g1 g2
          simp only at g1 g2
          have hFl : ((es.take q).foldl mergeN (List.range k)).length = k := by rw [foldm_len]; simp
          generalize (es.take q).foldl mergeN (List.range k) = F at *
          generalize es.getD q (0, 0) = e at *
          obtain ⟨P0, P1⟩ := e
          simp only at g1 g2
          have hp0 : (xss.getD q []).getD 0 0 = (P0 : Int) := by omega
          have hp1 : (xss.getD q []).getD 1 0 = (P1 : Int) := by omega
          rw [hp0] at h2 hgi
          rw [hp1] at h3 hgi
          have hk0 : P0 < k := by omega
          have hk1 : P1 < k := by omega
          have c0 := (hown.cellAt P0 (by omega)).trans (vz_get (by omega))
          have c1 := (hown.cellAt P1 (by omega)).trans (vz_get (by omega))
          have hmx : ∀ hi lo, hi = max (lab F P0) (lab F P1) → lo = min (lab F P0) (lab F P1) → mgP hi lo F k = (es.take (q + 1)).foldl mergeN (List.range k) := fun hi lo e1 e2 => by rw [hfs, ← mgP_all (P0, P1) F e1 e2, hFl]
          have HMX := Lib.hid hmx
          have HFL := Lib.hid hFl
          generalize hx0 : ((lab F P0 : Nat) : Int) = x0 at *
          generalize hx1 : ((lab F P1 : Nat) : Int) = x1 at *
          have HX := Lib.hid (⟨hx0, hx1⟩ : _ ∧ _)
          have hown0 : wr.ownsRow (w.heap.size + 1) 2 1 (.slice (some ⟨X, 0, none⟩) k cap) k (vz F) := hown
          have HOWN := Lib.hid hown0
          have HK := Lib.hid (⟨k0, k1, hbl⟩ : _ ∧ _ ∧ _)
          clear hx0 hx1 hmx hfs hp0 hp1 hgi g1 g2 hown hown0 hFl hbl r1
          go_wp2
          go_region_held3 (fun W' => W'.cell? ⟨w.heap.size, 1, none⟩ = some (.slice (some ⟨b, off, none⟩) n c) ∧ W'.cell? ⟨b, off + q, none⟩ = some (.slice (some ⟨b', off', none⟩) 2 cap') ∧ W'.cell? ⟨b', off', none⟩ = some (.int .i64 (P0 : Int)) ∧ W'.cell? ⟨b', off' + 1, none⟩ = some (.int .i64 (P1 : Int)) ∧ W'.cell? ⟨X, P0, none⟩ = some (.int .i64 x0) ∧ W'.cell? ⟨X, P1, none⟩ = some (.int .i64 x1))
            (first | (exact ⟨k1, h1, h2, h3, c0, c1⟩) | go_keep) (fail)
          all_goals
            clear h1 h2 h3 c0 c1
            have hcase : (x0 < x1) ∨ (x1 < x0) ∨ (¬ x0 < x1 ∧ ¬ x1 < x0 ∧ x1 = x0) := by omega
            rcases hcase with hlt01 | hlt01 | ⟨hn01, hn10', hxe⟩
            · have hn01 : ¬ x1 < x0 := by omega
              obtain ⟨hi, hhi⟩ : ∃ hi, hi = lab F P1 := ⟨_, rfl⟩
              obtain ⟨lo', hlo⟩ : ∃ lo', lo' = lab F P0 := ⟨_, rfl⟩
              have hxh : x1 = (hi : Int) := by rw [hhi]; have := HX.out; omega
              have hxl : x0 = (lo' : Int) := by rw [hlo]; have := HX.out; omega
              have hall := HMX.out hi lo' (by have := HX.out; omega) (by have := HX.out; omega)
              have HXH := Lib.hid (⟨hxh, hxl, hall⟩ : _ ∧ _ ∧ _)
              clear hxh hxl hall hhi hlo
              go_wp2
              go_loopw [8] (fun i wr' => ∃ j : Nat, j ≤ k ∧ i = .int .i64 j ∧ wr'.ownsRow (w.heap.size + 1) 2 1 (.slice (some ⟨X, 0, none⟩) k cap) k (vz (mgP hi lo' F j)) ∧ Chg X (X+1) wr wr') (fun i _ => k - (intOf i).toNat)
              case atStart => exact ⟨0, Nat.zero_le _, rfl, by simp [mgP]; exact ownsRow_chg HOWN.out ((Qt.refl wr).drew.chg 0 0) (fun _ _ => .inr (Nat.zero_le _)), (Qt.refl wr).drew.chg _ _⟩
              case round =>
                rename_i hrel
                obtain ⟨j, hj, rfl, hown, hcg⟩ := hrel
                by_cases hlj : j < k
                · have hjl : j < F.length := by rw [HFL.out]; exact hlj
                  have hgt := mgP_get (hi := hi) (lo := lo') hjl
                  have d0 := (hown.cellAt j (by omega)).trans (vz_get (by rw [mgP_len]; exact hjl))
                  have d1 := hown.frozenAt j
                  rw [hgt] at d0
                  by_cases hq : lab F j = hi
                  · have hst := (hown.stored j (.int .i64 ((if lab F j = hi then lo' else lab F j : Nat) : Int))).1
                    rw [vz_set, mgP_set hjl, if_pos hq] at hst
                    rw [← HXH.out.2.1] at hst
                    have hzh : ((lab F j : Nat) : Int) = x1 := by rw [hq]; exact HXH.out.1.symm
                    rw [hzh] at d0
                    have hc2 := hcg.trans ((Chg.refl X (X+1) _).setCell (p := ⟨X, j, none⟩) ⟨Nat.le_refl _, Nat.lt_succ_self _⟩ (.int .i64 x0))
                    have HS := Lib.hid (⟨hst, hc2⟩ : _ ∧ _)
                    clear hst hc2 hown hcg hgt hzh hq
                    go_wp2
                    go_roundw
                    case rel => exact ⟨j+1, by omega, by go_num, HS.out⟩
                    case measure => simp [intOf]; omega
                  · have hst := mgP_same (hi := hi) (lo := lo') hjl hq
                    have hzh : ¬ ((lab F j : Nat) : Int) = x1 := by have := HXH.out.1; omega
                    generalize ((lab F j : Nat) : Int) = zz at *
                    have hzb : (zz == x1) = false := by simpa using hzh
                    rw [← hst] at hown
                    have HS := Lib.hid (⟨hown, hcg⟩ : _ ∧ _)
                    clear hst hown hcg hgt hzh hq
                    go_wp2
                    go_roundw
                    case rel => exact ⟨j+1, by omega, by go_num, HS.out⟩
                    case measure => simp [intOf]; omega
                · obtain rfl : j = k := by omega
                  rw [HXH.out.2.2] at hown
                  obtain ⟨k0, k1, hbl⟩ := HK.out
                  have hwX : w.heap.size < X := by omega
                  have HS := Lib.hid (⟨hown, hbl.chgn hcg (by omega) hbl.size, Nat.lt_of_lt_of_le hXl hcg.size, hcg.cell k0 (.inl hwX), hcg.cell k1 (.inl hwX)⟩ : _ ∧ _ ∧ _ ∧ _ ∧ _)
                  clear hown hcg k0 k1 hbl
                  go_wp2
                  go_roundw
                  case rel => exact ⟨q+1, by omega, by go_num, HS.out⟩
                  case measure => simp [intOf]; omega
            · have hn01 : ¬ x0 < x1 := by omega
              obtain ⟨hi, hhi⟩ : ∃ hi, hi = lab F P0 := ⟨_, rfl⟩
              obtain ⟨lo', hlo⟩ : ∃ lo', lo' = lab F P1 := ⟨_, rfl⟩
              have hxh : x0 = (hi : Int) := by rw [hhi]; have := HX.out; omega
              have hxl : x1 = (lo' : Int) := by rw [hlo]; have := HX.out; omega
              have hall := HMX.out hi lo' (by have := HX.out; omega) (by have := HX.out; omega)
              have HXH := Lib.hid (⟨hxh, hxl, hall⟩ : _ ∧ _ ∧ _)
              clear hxh hxl hall hhi hlo
              go_wp2
              go_loopw [8] (fun i wr' => ∃ j : Nat, j ≤ k ∧ i = .int .i64 j ∧ wr'.ownsRow (w.heap.size + 1) 2 1 (.slice (some ⟨X, 0, none⟩) k cap) k (vz (mgP hi lo' F j)) ∧ Chg X (X+1) wr wr') (fun i _ => k - (intOf i).toNat)
              case atStart => exact ⟨0, Nat.zero_le _, rfl, by simp [mgP]; exact ownsRow_chg HOWN.out ((Qt.refl wr).drew.chg 0 0) (fun _ _ => .inr (Nat.zero_le _)), (Qt.refl wr).drew.chg _ _⟩
              case round =>
                rename_i hrel
                obtain ⟨j, hj, rfl, hown, hcg⟩ := hrel
                by_cases hlj : j < k
                · have hjl : j < F.length := by rw [HFL.out]; exact hlj
                  have hgt := mgP_get (hi := hi) (lo := lo') hjl
                  have d0 := (hown.cellAt j (by omega)).trans (vz_get (by rw [mgP_len]; exact hjl))
                  have d1 := hown.frozenAt j
                  rw [hgt] at d0
                  by_cases hq : lab F j = hi
                  · have hst := (hown.stored j (.int .i64 ((if lab F j = hi then lo' else lab F j : Nat) : Int))).1
                    rw [vz_set, mgP_set hjl, if_pos hq] at hst
                    rw [← HXH.out.2.1] at hst
                    have hzh : ((lab F j : Nat) : Int) = x0 := by rw [hq]; exact HXH.out.1.symm
                    rw [hzh] at d0
                    have hc2 := hcg.trans ((Chg.refl X (X+1) _).setCell (p := ⟨X, j, none⟩) ⟨Nat.le_refl _, Nat.lt_succ_self _⟩ (.int .i64 x1))
                    have HS := Lib.hid (⟨hst, hc2⟩ : _ ∧ _)
                    clear hst hc2 hown hcg hgt hzh hq
                    go_wp2
                    go_roundw
                    case rel => exact ⟨j+1, by omega, by go_num, HS.out⟩
                    case measure => simp [intOf]; omega
                  · have hst := mgP_same (hi := hi) (lo := lo') hjl hq
                    have hzh : ¬ ((lab F j : Nat) : Int) = x0 := by have := HXH.out.1; omega
                    generalize ((lab F j : Nat) : Int) = zz at *
                    have hzb : (zz == x0) = false := by simpa using hzh
                    rw [← hst] at hown
                    have HS := Lib.hid (⟨hown, hcg⟩ : _ ∧ _)
                    clear hst hown hcg hgt hzh hq
                    go_wp2
                    go_roundw
                    case rel => exact ⟨j+1, by omega, by go_num, HS.out⟩
                    case measure => simp [intOf]; omega
                · obtain rfl : j = k := by omega
                  rw [HXH.out.2.2] at hown
                  obtain ⟨k0, k1, hbl⟩ := HK.out
                  have hwX : w.heap.size < X := by omega
                  have HS := Lib.hid (⟨hown, hbl.chgn hcg (by omega) hbl.size, Nat.lt_of_lt_of_le hXl hcg.size, hcg.cell k0 (.inl hwX), hcg.cell k1 (.inl hwX)⟩ : _ ∧ _ ∧ _ ∧ _ ∧ _)
                  clear hown hcg k0 k1 hbl
                  go_wp2
                  go_roundw
                  case rel => exact ⟨q+1, by omega, by go_num, HS.out⟩
                  case measure => simp [intOf]; omega
            · subst hxe
              obtain ⟨hi, hhi⟩ : ∃ hi, hi = lab F P0 := ⟨_, rfl⟩
              obtain ⟨lo', hlo⟩ : ∃ lo', lo' = lab F P0 := ⟨_, rfl⟩
              have hxh : x1 = (hi : Int) := by rw [hhi]; have := HX.out; omega
              have hxl : x1 = (lo' : Int) := by rw [hlo]; have := HX.out; omega
              have hall := HMX.out hi lo' (by have := HX.out; omega) (by have := HX.out; omega)
              have HXH := Lib.hid (⟨hxh, hxl, hall⟩ : _ ∧ _ ∧ _)
              clear hxh hxl hall hhi hlo
              go_wp2
              go_loopw [8] (fun i wr' => ∃ j : Nat, j ≤ k ∧ i = .int .i64 j ∧ wr'.ownsRow (w.heap.size + 1) 2 1 (.slice (some ⟨X, 0, none⟩) k cap) k (vz (mgP hi lo' F j)) ∧ Chg X (X+1) wr wr') (fun i _ => k - (intOf i).toNat)
              case atStart => exact ⟨0, Nat.zero_le _, rfl, by simp [mgP]; exact ownsRow_chg HOWN.out ((Qt.refl wr).drew.chg 0 0) (fun _ _ => .inr (Nat.zero_le _)), (Qt.refl wr).drew.chg _ _⟩
              case round =>
                rename_i hrel
                obtain ⟨j, hj, rfl, hown, hcg⟩ := hrel
                by_cases hlj : j < k
                · have hjl : j < F.length := by rw [HFL.out]; exact hlj
                  have hgt := mgP_get (hi := hi) (lo := lo') hjl
                  have d0 := (hown.cellAt j (by omega)).trans (vz_get (by rw [mgP_len]; exact hjl))
                  have d1 := hown.frozenAt j
                  rw [hgt] at d0
                  by_cases hq : lab F j = hi
                  · have hst := (hown.stored j (.int .i64 ((if lab F j = hi then lo' else lab F j : Nat) : Int))).1
                    rw [vz_set, mgP_set hjl, if_pos hq] at hst
                    rw [← HXH.out.2.1] at hst
                    have hzh : ((lab F j : Nat) : Int) = x1 := by rw [hq]; exact HXH.out.1.symm
                    rw [hzh] at d0
                    have hc2 := hcg.trans ((Chg.refl X (X+1) _).setCell (p := ⟨X, j, none⟩) ⟨Nat.le_refl _, Nat.lt_succ_self _⟩ (.int .i64 x1))
                    have HS := Lib.hid (⟨hst, hc2⟩ : _ ∧ _)
                    clear hst hc2 hown hcg hgt hzh hq
                    go_wp2
                    go_roundw
                    case rel => exact ⟨j+1, by omega, by go_num, HS.out⟩
                    case measure => simp [intOf]; omega
                  · have hst := mgP_same (hi := hi) (lo := lo') hjl hq
                    have hzh : ¬ ((lab F j : Nat) : Int) = x1 := by have := HXH.out.1; omega
                    generalize ((lab F j : Nat) : Int) = zz at *
                    have hzb : (zz == x1) = false := by simpa using hzh
                    rw [← hst] at hown
                    have HS := Lib.hid (⟨hown, hcg⟩ : _ ∧ _)
                    clear hst hown hcg hgt hzh hq
                    go_wp2
                    go_roundw
                    case rel => exact ⟨j+1, by omega, by go_num, HS.out⟩
                    case measure => simp [intOf]; omega
                · obtain rfl : j = k := by omega
                  rw [HXH.out.2.2] at hown
                  obtain ⟨k0, k1, hbl⟩ := HK.out
                  have hwX : w.heap.size < X := by omega
                  have HS := Lib.hid (⟨hown, hbl.chgn hcg (by omega) hbl.size, Nat.lt_of_lt_of_le hXl hcg.size, hcg.cell k0 (.inl hwX), hcg.cell k1 (.inl hwX)⟩ : _ ∧ _ ∧ _ ∧ _ ∧ _)
                  clear hown hcg k0 k1 hbl
                  go_wp2
                  go_roundw
                  case rel => exact ⟨q+1, by omega, by go_num, HS.out⟩
                  case measure => simp [intOf]; omega
        · obtain rfl : q = n := by omega
          rw [List.take_of_length_le (by rw [HEL.out]; exact Nat.le_refl _)] at hown
          have hI : ∀ x ∈ zs (labelsN k es), I64 x := by
            intro x hx
            obtain ⟨v, hv, rfl⟩ := List.getElem_of_mem hx
            have hL := labelsI HIN.out
            rw [zs_len, hL.len] at hv
            have := hL.le v hv
            have e : (zs (labelsN k es))[v]'(by rw [zs_len, hL.len]; exact hv) = (lab (labelsN k es) v : Int) := by rw [← zs_get (by rw [hL.len]; exact hv)]; simp [List.getD, List.getElem?_eq_getElem (show v < (zs (labelsN k es)).length by rw [zs_len, hL.len]; exact hv)]
            rw [e]; unfold I64; omega
          have hO : OwI (w.heap.size + 1) wr.heap.size wr (.slice (some ⟨X, 0, none⟩) k cap) (zs (labelsN k es)) := .mk hown (by omega) hI
          have HO := Lib.hid hO
          clear hown hI hO
          go_wp2
          go_ret
          exact ⟨_, _, rfl, OwI.mono HO.out (Nat.le_succ _) (Nat.le_refl _), hbl⟩

end Go.Proofs.Ytlahfglblgppgaa
