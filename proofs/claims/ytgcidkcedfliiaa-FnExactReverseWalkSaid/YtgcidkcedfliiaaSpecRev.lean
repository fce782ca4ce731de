/- Reversed walks, by the model. -/
import Derived.Test.YtgcidkcedfliiaaSpecWk2
set_option linter.unusedSimpArgs false
set_option linter.unusedVariables false
namespace Go.Proofs.Ytgcidkcedfliiaa
open Go.RowKit

def revTo (ws : List Int) (k : Nat) : List Value := (List.range k).map (fun j => Value.int .i64 (rv (ws.getD (ws.length - 1 - j) 0)))
theorem revTo_step (ws : List Int) (k : Nat) : revTo ws (k+1) = revTo ws k ++ [.int .i64 (rv (ws.getD (ws.length - 1 - k) 0))] := by simp [revTo, List.range_succ]
theorem revTo_all (ws : List Int) : revTo ws ws.length = (revW ws).map (Value.int .i64) := by simp [revTo, revW]
theorem revW_I64 {n : Nat} {ws : List Int} (hn : n ≤ 10) (h : ∀ i, i < ws.length → 0 ≤ ws.getD i 0 ∧ ws.getD i 0 < 2 * (n : Int)) : ∀ x ∈ revW ws, I64 x := by
  intro x hx
  simp only [revW, List.mem_map, List.mem_range] at hx
  obtain ⟨j, hj, rfl⟩ := hx
  have := h (ws.length - 1 - j) (by omega)
  rw [rv_is _ this.1 (by omega)]
  unfold I64
  omega

set_option maxRecDepth 100000 in
set_option maxHeartbeats 1600000 in
theorem specRev_yes {lo hi lo1 hi1 : Nat} (s : Int) (a : Option Addr) (n c : Nat) (xss : List (List Int)) (a1 : Option Addr) (n1 c1 : Nat) (ws : List Int) (w : World) (h : RdR lo hi w (.slice a n c) xss) (hn : xss.length = n) (h1 : RdI lo1 hi1 w (.slice a1 n1 c1) ws) (hl : ws.length = n1) (hc : wcode s xss ws = 0) :
    Calls Try.prog 26 #[.agg #[.int .i64 s, .slice a n c], .slice a1 n1 c1] w fun e w' => ∃ v, e = .returned (.tuple #[v, .int .i64 0]) ∧ w'.ownsRow w.heap.size 2 1 v n1 ((revW ws).map (Value.int .i64)) ∧ Below w.heap.size w w' := by
  obtain ⟨i0, hi', z0, z1, z2⟩ := info_parts Try.info2
  have hCO := @l03Code lo hi lo1 hi1 s a n c xss a1 n1 c1 ws
  rw [hc] at hCO
  have HCO := Lib.hid (fun W' (h' : RdR lo hi W' (.slice a n c) xss) (h1' : RdI lo1 hi1 W' (.slice a1 n1 c1) ws) => hCO W' h' hn h1' hl)
  obtain ⟨hg, hw⟩ := wcode_ok hc
  have hdl : (dirE (pairs xss)).length = 2 * n := by rw [dirE_len, pairs_len, hn]
  have hn10 : n ≤ 10 := by have := grB_iff hg; omega
  obtain ⟨hz1, hz2, hin, _⟩ := wkB_iff.1 hw
  rw [hdl] at hin
  rw [hl] at hz1 hz2
  have HIN := Lib.hid hin
  have HL := Lib.hid hl
  have HR := Lib.hid h
  have H1 := Lib.hid h1
  have HC := Lib.hid (fun W' (h1' : RdI lo1 hi1 W' (.slice a1 n1 c1) ws) => h1'.at hl)
  have hs1 : wrap64 ((n1 : Int) - 1) = (n1 : Int) - 1 := IntWalk.wrap64_in _ (by omega)
  have hs2 : IntKind.i64.wrap ((n1 : Int) - 1) = (n1 : Int) - 1 := IntWalk.i64_in _ (by omega)
  clear hCO hc hg hw hdl hin hl h h1 hn
  go_enter Try.func26, Try.ntmps26
  go_wp2_with fail
  refine calls_gen (fun W => Below w.heap.size w W) ((Below.refl _ _).alloc (Nat.le_refl _) _) ?_
  rintro W hB
  refine (HCO.out W (HR.out.below hB) (H1.out.below hB)).mono ?_
  rintro e w1 ⟨rfl, b1⟩
  replace hB := hB.next b1
  clear b1 HCO
  go_wp2
  go_loopw [7, 8] (fun v i wr => ∃ k r : Nat, k + r = n1 ∧ i = .int .i64 ((r : Int) - 1) ∧ wr.ownsRow w.heap.size 2 1 v k (revTo ws k) ∧ Below w.heap.size w wr) (fun _ i _ => (intOf i + 1).toNat)
  case atStart =>
    refine ⟨0, n1, by omega, rfl, ?_, hB.alloc (by have := hB.size; omega) _⟩
    exact World.ownsRow_lit w1 #[] 0 hB.size (by unfold maxLen; omega) rfl
  case round =>
    clear hB hs1 hs2
    obtain ⟨k, r, hkr, rfl, hown, hB⟩ := hrel
    cases r with
    | zero =>
      have hkn : k = n1 := by omega
      have HK := Lib.hid hkn
      clear hkn
      rw [show ((0 : Nat) : Int) - 1 = -1 from rfl]
      go_wp2
      go_ret2
      obtain rfl := HK.out
      have hown' := hown
      rw [← HL.out, revTo_all, HL.out] at hown'
      exact ⟨_, rfl, hown', hB⟩
    | succ r =>
      have e : ((r + 1 : Nat) : Int) - 1 = (r : Int) := by omega
      rw [e]
      obtain ⟨b, off, rfl, gw⟩ := HC.out w H1.out r (by omega)
      have hbw : b < w.heap.size := World.block_lt_of_cell? w _ gw
      have g0 := hB.keep gw
      clear gw
      have hx := HIN.out r (by rw [HL.out]; omega)
      have hrv := rv_is (ws.getD r 0) hx.1 (by omega)
      have hst := revTo_step ws k
      rw [show ws.length - 1 - k = r by have := HL.out; omega] at hst
      generalize ws.getD r 0 = x at g0 hx hrv hst
      obtain ⟨hx0, hx1⟩ := hx
      have hx2 : x < 20 := by omega
      have hr1 : r < n1 := by omega
      have hr2 : (r : Int) < (n1 : Int) := by omega
      have hr0 : (0 : Int) ≤ (r : Int) := by omega
      obtain ⟨m, y, hm, hy0, hy1⟩ : ∃ m y : Nat, x = 2 * (m : Int) + (y : Int) ∧ y ≤ 1 ∧ m < 10 := ⟨(x / 2).toNat, (x % 2).toNat, by omega, by omega, by omega⟩
      have e1 : rv x = (m : Int) * 2 + 1 - (y : Int) := by rw [hrv]; omega
      rw [e1] at hst
      have t0 : x.tdiv 2 = (m : Int) := by rw [Int.tdiv_eq_ediv_of_nonneg hx0]; omega
      have t1 : IntKind.i64.wrap (m : Int) = (m : Int) := IntWalk.i64_in _ (by omega)
      have t2 : IntKind.i64.wrap ((m : Int) * 2) = (m : Int) * 2 := IntWalk.i64_in _ (by omega)
      have t3 : IntKind.i64.wrap ((m : Int) * 2 + 1) = (m : Int) * 2 + 1 := IntWalk.i64_in _ (by omega)
      have t4 : x.tmod 2 = (y : Int) := by rw [Int.tmod_eq_emod_of_nonneg hx0]; omega
      have t5 : IntKind.i64.wrap (y : Int) = (y : Int) := IntWalk.i64_in _ (by omega)
      have t6 : IntKind.i64.wrap ((m : Int) * 2 + 1 - (y : Int)) = (m : Int) * 2 + 1 - (y : Int) := IntWalk.i64_in _ (by omega)
      have HST := Lib.hid hst
      have HKR := Lib.hid hkr
      have hm63 : k + 1 ≤ maxLen := by unfold maxLen; omega
      have hby : (k + 1) * 8 ≤ 140737488355328 := by omega
      have ownD : wr.drew.ownsRow w.heap.size 2 1 u7 k (revTo ws k) := ownsRow_chg hown ((Qt.refl wr).drew.chg 0 0) (fun _ _ => .inr (Nat.zero_le _))
      have hBD := hB.drew
      have hne : some b ≠ u7.ownBlock := fun e => by have := (hown.lt b e.symm).1; omega
      have hszD : w.heap.size ≤ wr.heap.size := hB.size
      have HB := Lib.hid hB
      clear hst e hkr hx1 hx2 hx0 hrv e1 hm hB hown
      go_wp2
      go_region_held3 (fun W' => W'.cell? ⟨b, off + r, none⟩ = some (.int .i64 x))
        (first | (exact g0) | (exact g0c) | go_keep)
        (first | (refine step_append_lies _ rfl (.tmp 23) (.tmp 37) 25 rfl w.heap.size 2 i0 (.int .i64 0) 1 8 Try.underlying25 hi' z0 z1 z2 rfl (by decide) u7 k (revTo ws k) (by simp [Act.eval, Act.put]) (ownD.alloc _) ⟨wr.drew.heap.size, 0, none⟩ 1 1 [.int .i64 ((m : Int) * 2 + 1 - (y : Int))] (by simp [Act.eval, Act.put]) rfl (news_one _ _ _) (fun u hu => by simp at hu; subst hu; rfl) (by decide) hm63 hby (by simp; omega) (wr.heap.size + 1) (by simp) ?_; intro g2 c3 w3 hown3 hgr hlie hlt3; have g0c := hgr.cell (((Below.refl wr.drew.heap.size wr.drew).alloc (Nat.le_refl _) _).keep g0) hne))
      have hgr2 : (wr.drew.alloc (.cells #[.int .i64 ((m : Int) * 2 + 1 - (y : Int))] 2)).grownBy w3 u7.ownBlock := hgr
      obtain ⟨hB3, hz3, _, _⟩ := grown_own hBD ownD (Nat.le_refl _) hgr2
      rw [← HST.out] at hown3
      clear hgr hgr2 hlie hlt3 ownD hBD t0 t1 t2 t3 t4 t5 t6
      go_wp2
      go_roundw
      case rel => exact ⟨k+1, r, by have := HKR.out; omega, rfl, hown3, hB3⟩
      case measure => simp [intOf]

set_option maxRecDepth 100000 in
theorem specRev_no {lo hi lo1 hi1 : Nat} (s : Int) (a : Option Addr) (n c : Nat) (xss : List (List Int)) (a1 : Option Addr) (n1 c1 : Nat) (ws : List Int) (w : World) (h : RdR lo hi w (.slice a n c) xss) (hn : xss.length = n) (h1 : RdI lo1 hi1 w (.slice a1 n1 c1) ws) (hl : ws.length = n1) (hc : ¬ wcode s xss ws = 0) :
    Calls Try.prog 26 #[.agg #[.int .i64 s, .slice a n c], .slice a1 n1 c1] w fun e w' => e = .returned (.tuple #[.slice none 0 0, .int .i64 (wcode s xss ws)]) ∧ Below w.heap.size w w' := by
  have HCO := Lib.hid (fun W' (h' : RdR lo hi W' (.slice a n c) xss) (h1' : RdI lo1 hi1 W' (.slice a1 n1 c1) ws) => l03Code s a n c xss a1 n1 c1 ws W' h' hn h1' hl)
  have HR := Lib.hid h
  have H1 := Lib.hid h1
  generalize wcode s xss ws = code at HCO hc ⊢
  have hcb : (code != 0) = true := by simpa using hc
  clear hc hl h h1 hn
  go_enter Try.func26, Try.ntmps26
  go_wp2_with fail
  refine calls_gen (fun W => Below w.heap.size w W) ((Below.refl _ _).alloc (Nat.le_refl _) _) ?_
  rintro W hB
  refine (HCO.out W (HR.out.below hB) (H1.out.below hB)).mono ?_
  rintro e w1 ⟨rfl, b1⟩
  replace hB := hB.next b1
  clear b1 HCO
  go_wp2
  go_ret2
  exact ⟨rfl, hB⟩

theorem specRev {lo hi lo1 hi1 : Nat} (s : Int) (a : Option Addr) (n c : Nat) (xss : List (List Int)) (a1 : Option Addr) (n1 c1 : Nat) (ws : List Int) (w : World) (h : RdR lo hi w (.slice a n c) xss) (hn : xss.length = n) (h1 : RdI lo1 hi1 w (.slice a1 n1 c1) ws) (hl : ws.length = n1) :
    Calls Try.prog 26 #[.agg #[.int .i64 s, .slice a n c], .slice a1 n1 c1] w fun e w' => ∃ a' c', e = .returned (.tuple #[.slice a' (revOf s xss ws).1.length c', .int .i64 (revOf s xss ws).2]) ∧
      OwI w.heap.size w'.heap.size w' (.slice a' (revOf s xss ws).1.length c') (revOf s xss ws).1 ∧ Below w.heap.size w w' := by
  by_cases hc : wcode s xss ws = 0
  · refine (specRev_yes s a n c xss a1 n1 c1 ws w h hn h1 hl hc).mono fun e w' ⟨v, he, ho, hb⟩ => ?_
    obtain ⟨hg, hw⟩ := wcode_ok hc
    obtain ⟨_, hz2, hin, _⟩ := wkB_iff.1 hw
    have hdl : (dirE (pairs xss)).length = 2 * n := by rw [dirE_len, pairs_len, hn]
    rw [hdl] at hin
    have hn10 : n ≤ 10 := by have := grB_iff hg; omega
    have hlen : (revW ws).length = n1 := by rw [revW_len, hl]
    have hO : OwI w.heap.size w'.heap.size w' v (revW ws) := .mk ho (by omega) (revW_I64 hn10 (fun i hi => by have := hin i hi; omega))
    obtain ⟨a', c', hv⟩ := hO.rd.shape
    subst hv
    have e1 : revOf s xss ws = (revW ws, 0) := by simp [revOf, hc]
    rw [e1]
    exact ⟨a', c', he, hO, hb⟩
  · refine (specRev_no s a n c xss a1 n1 c1 ws w h hn h1 hl hc).mono fun e w' ⟨he, hb⟩ => ⟨none, 0, ?_, ?_, hb⟩
    · rw [he]; simp [revOf, hc]
    · simp only [revOf, hc]; exact OwI.nil _ _ _

end Go.Proofs.Ytgcidkcedfliiaa
