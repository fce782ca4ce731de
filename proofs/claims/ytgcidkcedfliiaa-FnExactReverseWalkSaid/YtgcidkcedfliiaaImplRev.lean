/- Reversed walks, by the program. -/
import Derived.Test.YtgcidkcedfliiaaImplWk2
import Derived.Test.YtgcidkcedfliiaaSpecRev
set_option linter.unusedSimpArgs false
set_option linter.unusedVariables false
namespace Go.Proofs.Ytgcidkcedfliiaa
open Go.RowKit

/-- k numbers reversed: they stand at the end -/
def revSet (ws : List Int) (k : Nat) : List Value := (List.range ws.length).map (fun j => Value.int .i64 (if ws.length - 1 - j < k then rv (ws.getD (ws.length - 1 - j) 0) else 0))
theorem revSet_zero (ws : List Int) (n : Nat) (h : ws.length = n) : (madeCells #[Value.int .i64 0] n).toList = revSet ws 0 := by
  rw [toList_madeCells_one, ← h]
  simp [revSet, List.map_const']
theorem revSet_all (ws : List Int) : revSet ws ws.length = (revW ws).map (Value.int .i64) := by
  unfold revSet revW
  rw [List.map_map]
  refine List.map_congr_left fun j hj => ?_
  have : j < ws.length := by simpa using hj
  rw [if_pos (by omega)]
  rfl
theorem revSet_step (ws : List Int) (k : Nat) (hk : k < ws.length) : (revSet ws k).set (ws.length - 1 - k) (.int .i64 (rv (ws.getD k 0))) = revSet ws (k+1) := by
  apply List.ext_getElem
  · simp [revSet]
  · intro j h1 h2
    have hj : j < ws.length := by simpa [revSet] using h2
    rw [List.getElem_set]
    by_cases e : ws.length - 1 - k = j
    · rw [if_pos e]
      have e2 : ws.length - 1 - j = k := by omega
      simp [revSet, e2]
    · rw [if_neg e]
      have e2 : (ws.length - 1 - j < k) ↔ (ws.length - 1 - j < k + 1) := by omega
      simp [revSet, e2]
theorem revSet_get (ws : List Int) (k j : Nat) (hj : j < ws.length) : ∃ x, (revSet ws k)[j]? = some (.int .i64 x) := by
  refine ⟨if ws.length - 1 - j < k then rv (ws.getD (ws.length - 1 - j) 0) else 0, ?_⟩
  rw [List.getElem?_eq_getElem (by simpa [revSet] using hj)]
  simp only [revSet, List.getElem_map, List.getElem_range]

set_option maxRecDepth 100000 in
set_option maxHeartbeats 3200000 in
theorem implRev_yes {lo hi lo1 hi1 : Nat} (s : Int) (a : Option Addr) (n c : Nat) (xss : List (List Int)) (a1 : Option Addr) (n1 c1 : Nat) (ws : List Int) (w : World) (h : RdR lo hi w (.slice a n c) xss) (hn : xss.length = n) (h1 : RdI lo1 hi1 w (.slice a1 n1 c1) ws) (hl : ws.length = n1) (hcap : n1 ≤ c1) (hc : wcode s xss ws = 0) :
    Calls Try.prog 27 #[.agg #[.int .i64 s, .slice a n c], .slice a1 n1 c1] w fun e w' => ∃ v, e = .returned (.tuple #[v, .int .i64 0]) ∧ w'.ownsRow w.heap.size 2 1 v n1 ((revW ws).map (Value.int .i64)) ∧ Below w.heap.size w w' := by
  obtain ⟨i0, hi', z0, z1, z2⟩ := info_parts Try.info2
  have hCO := @checkWalk lo hi lo1 hi1 s a n c xss a1 n1 c1 ws
  rw [hc] at hCO
  have HCO := Lib.hid (fun W' (h' : RdR lo hi W' (.slice a n c) xss) (h1' : RdI lo1 hi1 W' (.slice a1 n1 c1) ws) => hCO W' h' hn h1' hl hcap)
  obtain ⟨hg, hw⟩ := wcode_ok hc
  obtain ⟨hz1, hz2, _, _⟩ := wkB_iff.1 hw
  rw [hl] at hz1 hz2
  have HL := Lib.hid hl
  have HR := Lib.hid h
  have H1 := Lib.hid h1
  have HC := Lib.hid (h1.at hl)
  clear hCO hc hg hw hl h h1 hn
  go_enter Try.func27, Try.ntmps27
  go_wp2_with fail
  refine calls_gen (fun W => Below w.heap.size w W) ((Below.refl _ _).alloc (Nat.le_refl _) _) ?_
  rintro W hB
  refine (HCO.out W (HR.out.below hB) (H1.out.below hB)).mono ?_
  rintro e w1 ⟨rfl, b1⟩
  replace hB := hB.next b1
  clear b1 HCO
  go_wp2_with (at_make; refine wpList_make_full _ rfl _ _ 25 rfl w1.heap.size 2 i0 (.int .i64 0) 1 Try.underlying25 hi' z0 z1 _ _ _ _ n1 rfl rfl rfl rfl ?c1 ?c2 ?c3 ?_)
  case c1 => rw [z2]; omega
  case c2 => unfold maxLen; omega
  case c3 => exact Nat.le_refl _
  intro w2 hown hgr
  rw [revSet_zero ws n1 HL.out] at hown
  have hbl : Below w.heap.size w w2 := hB.grown hgr hB.size (by simp)
  obtain ⟨G, hG⟩ : ∃ G, G = w1.heap.size := ⟨_, rfl⟩
  rw [← hG] at hown ⊢
  have hGz : w.heap.size ≤ G := by rw [hG]; exact hB.size
  clear hgr hB hG
  go_wp2
  go_loopw [21] (fun i wr => ∃ k : Nat, k ≤ n1 ∧ i = .int .i64 k ∧ wr.ownsRow G 2 1 (.slice (some ⟨G, 0, none⟩) n1 n1) n1 (revSet ws k) ∧ Below w.heap.size w wr) (fun i _ => n1 - (intOf i).toNat)
  case atStart => exact ⟨0, Nat.zero_le _, rfl, hown, hbl⟩
  case round =>
    clear hown hbl
    obtain ⟨k, hk, rfl, hown, hB⟩ := hrel
    by_cases hlt : k < n1
    · obtain ⟨b, off, rfl, gw⟩ := HC.out k hlt
      have hbw : b < w.heap.size := World.block_lt_of_cell? w _ gw
      have g0 := hB.keep gw
      clear gw
      have hst := revSet_step ws k (by rw [HL.out]; exact hlt)
      rw [HL.out] at hst
      obtain ⟨y, hy⟩ := revSet_get ws k (n1 - 1 - k) (by rw [HL.out]; omega)
      generalize ws.getD k 0 = x at g0 hst
      have HST := Lib.hid hst
      have HY := Lib.hid hy
      have hs1 : wrap64 ((n1 : Int) - 1) = (n1 : Int) - 1 := IntWalk.wrap64_in _ (by omega)
      have hs2 : IntKind.i64.wrap ((n1 : Int) - 1) = (n1 : Int) - 1 := IntWalk.i64_in _ (by omega)
      have hs3 : wrap64 ((n1 : Int) - 1 - (k : Int)) = (n1 : Int) - 1 - (k : Int) := IntWalk.wrap64_in _ (by omega)
      have hs4 : IntKind.i64.wrap ((n1 : Int) - 1 - (k : Int)) = (n1 : Int) - 1 - (k : Int) := IntWalk.i64_in _ (by omega)
      have hs5 : ((n1 : Int) - 1 - (k : Int)).toNat = n1 - 1 - k := by omega
      have hs6 : (0 : Int) ≤ (n1 : Int) - 1 - (k : Int) := by omega
      have hs7 : (n1 : Int) - 1 - (k : Int) < (n1 : Int) := by omega
      clear hst hy
      go_wp2_with fail
      refine (reverseOf x wr).mono ?_
      rintro e w5 ⟨rfl, q5⟩
      have hown5 := ownsRow_chg hown (q5.chg 0 0) (fun _ _ => .inr (Nat.zero_le _))
      have hB5 := hB.qt q5
      clear hown hB q5 g0
      have h3 := (hown5.cellAt (n1 - 1 - k) (by omega)).trans HY.out
      have h4 := hown5.frozenAt (n1 - 1 - k)
      have hst := (hown5.stored (n1 - 1 - k) (.int .i64 (rv x))).1
      rw [HST.out] at hst
      have hch : Chg G (G + 1) w5 (w5.setCell ⟨G, n1 - 1 - k, none⟩ (.int .i64 (rv x))) := (Chg.refl G (G + 1) w5).setCell (p := ⟨G, n1 - 1 - k, none⟩) ⟨Nat.le_refl _, Nat.lt_succ_self _⟩ _
      have HF := Lib.hid (⟨hst, hB5.chgn hch hGz hB5.size⟩ : _ ∧ _)
      clear hst hch hown5 hB5
      go_wp2
      go_roundw
      case rel => exact ⟨k+1, by omega, by go_num, HF.out⟩
      case measure => simp [intOf]; omega
    · obtain rfl : k = n1 := by omega
      have hall := revSet_all ws
      rw [HL.out] at hall
      rw [hall] at hown
      have HF := Lib.hid (⟨ownsRow_mono hown hGz, hB⟩ : _ ∧ _)
      clear hall hown hB
      go_wp2
      go_ret2
      exact ⟨_, rfl, HF.out⟩

set_option maxRecDepth 100000 in
theorem implRev_no {lo hi lo1 hi1 : Nat} (s : Int) (a : Option Addr) (n c : Nat) (xss : List (List Int)) (a1 : Option Addr) (n1 c1 : Nat) (ws : List Int) (w : World) (h : RdR lo hi w (.slice a n c) xss) (hn : xss.length = n) (h1 : RdI lo1 hi1 w (.slice a1 n1 c1) ws) (hl : ws.length = n1) (hcap : n1 ≤ c1) (hc : ¬ wcode s xss ws = 0) :
    Calls Try.prog 27 #[.agg #[.int .i64 s, .slice a n c], .slice a1 n1 c1] w fun e w' => e = .returned (.tuple #[.slice none 0 0, .int .i64 (wcode s xss ws)]) ∧ Below w.heap.size w w' := by
  have HCO := Lib.hid (fun W' (h' : RdR lo hi W' (.slice a n c) xss) (h1' : RdI lo1 hi1 W' (.slice a1 n1 c1) ws) => checkWalk s a n c xss a1 n1 c1 ws W' h' hn h1' hl hcap)
  have HR := Lib.hid h
  have H1 := Lib.hid h1
  generalize wcode s xss ws = code at HCO hc ⊢
  have hcb : (code != 0) = true := by simpa using hc
  clear hc hl h h1 hn
  go_enter Try.func27, Try.ntmps27
  go_wp2_with fail
  refine calls_gen (fun W => Below w.heap.size w W) ((Below.refl _ _).alloc (Nat.le_refl _) _) ?_
  rintro W hB
  refine (HCO.out W (HR.out.below hB) (H1.out.below hB)).mono ?_
  rintro e w1 ⟨rfl, b1⟩
  replace hB := hB.next b1
  clear b1 HCO
  go_wp2
  go_ret2
  exact ⟨rfl, hB⟩

theorem implRev {lo hi lo1 hi1 : Nat} (s : Int) (a : Option Addr) (n c : Nat) (xss : List (List Int)) (a1 : Option Addr) (n1 c1 : Nat) (ws : List Int) (w : World) (h : RdR lo hi w (.slice a n c) xss) (hn : xss.length = n) (h1 : RdI lo1 hi1 w (.slice a1 n1 c1) ws) (hl : ws.length = n1) (hcap : n1 ≤ c1) :
    Calls Try.prog 27 #[.agg #[.int .i64 s, .slice a n c], .slice a1 n1 c1] w fun e w' => ∃ a' c', e = .returned (.tuple #[.slice a' (revOf s xss ws).1.length c', .int .i64 (revOf s xss ws).2]) ∧
      OwI w.heap.size w'.heap.size w' (.slice a' (revOf s xss ws).1.length c') (revOf s xss ws).1 ∧ Below w.heap.size w w' := by
  by_cases hc : wcode s xss ws = 0
  · refine (implRev_yes s a n c xss a1 n1 c1 ws w h hn h1 hl hcap hc).mono fun e w' ⟨v, he, ho, hb⟩ => ?_
    obtain ⟨hg, hw⟩ := wcode_ok hc
    obtain ⟨_, hz2, hin, _⟩ := wkB_iff.1 hw
    have hdl : (dirE (pairs xss)).length = 2 * n := by rw [dirE_len, pairs_len, hn]
    rw [hdl] at hin
    have hn10 : n ≤ 10 := by have := grB_iff hg; omega
    have hlen : (revW ws).length = n1 := by rw [revW_len, hl]
    have hO : OwI w.heap.size w'.heap.size w' v (revW ws) := .mk ho (by omega) (revW_I64 hn10 (fun i hi => by have := hin i hi; omega))
    obtain ⟨a', c', hv⟩ := hO.rd.shape
    subst hv
    have e1 : revOf s xss ws = (revW ws, 0) := by simp [revOf, hc]
    rw [e1]
    exact ⟨a', c', he, hO, hb⟩
  · refine (implRev_no s a n c xss a1 n1 c1 ws w h hn h1 hl hcap hc).mono fun e w' ⟨he, hb⟩ => ⟨none, 0, ?_, ?_, hb⟩
    · rw [he]; simp [revOf, hc]
    · simp only [revOf, hc]; exact OwI.nil _ _ _

end Go.Proofs.Ytgcidkcedfliiaa
