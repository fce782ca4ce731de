/- The program's graph made of pairs. -/
import Derived.Test.YtecobmmlpoaggaaOwP2
import Derived.Test.YtecobmmlpoaggaaBip
set_option linter.unusedSimpArgs false
set_option linter.unusedVariables false
namespace Go.RowKit
theorem Chg.frozen {lo hi : Nat} {w w' : World} (h : Chg lo hi w w') {p : Addr} (hp : p.block < w.heap.size) (ho : p.block < lo ∨ hi ≤ p.block) {b : Bool} (hc : w.frozen? p = b) : w'.frozen? p = b := (World.frozen?_of_block (w := w) (h.block _ hp ho)).trans hc
end Go.RowKit
namespace Go.Proofs.Ytecobmmlpoaggaa
open Go.RowKit

/-- a slice value reads as a list of pairs -/
def RdE (w : World) (a : Option Addr) (es : List (Int × Int)) : Prop :=
  ∀ j, j < es.length → ∃ b, a = some ⟨b, 0, none⟩ ∧ b < w.heap.size ∧ w.cell? ⟨b, j * 2, none⟩ = some (.int .i64 (es.getD j (0, 0)).1) ∧ w.cell? ⟨b, j * 2 + 1, none⟩ = some (.int .i64 (es.getD j (0, 0)).2)
theorem RdE.below {w w' : World} {a : Option Addr} {es : List (Int × Int)} (h : RdE w a es) (hb : Below w.heap.size w w') : RdE w' a es := fun j hj => by
  obtain ⟨b, h1, h2, h3, h4⟩ := h j hj
  exact ⟨b, h1, Nat.lt_of_lt_of_le h2 hb.size, hb.keep h3, hb.keep h4⟩
theorem flat_getE (es : List (Int × Int)) (k : Nat) (hk : k < es.length) : (flat es)[k * 2]? = some (.int .i64 (es.getD k (0, 0)).1) ∧ (flat es)[k * 2 + 1]? = some (.int .i64 (es.getD k (0, 0)).2) := by
  induction es generalizing k with
  | nil => simp at hk
  | cons e r ih =>
    cases k with
    | zero => simp [flat]
    | succ k =>
      have := ih k (by simpa using hk)
      have e1 : (k + 1) * 2 = k * 2 + 2 := by omega
      rw [e1]
      simpa [flat] using this
theorem RdE.mk {B n c : Nat} {a : Option Addr} {w : World} {es : List (Int × Int)} (h : w.ownsRow B 64 2 (.slice a n c) n (flat es)) (hn : es.length = n) : RdE w a es := by
  intro j hj
  obtain ⟨g, cap, hv, _, hg⟩ := h.form (by omega)
  simp only [Value.slice.injEq] at hv
  obtain ⟨rfl, _, rfl⟩ := hv
  obtain ⟨f1, f2⟩ := flat_getE es j hj
  exact ⟨g, rfl, hg, (h.cellAt (j * 2) (by omega)).trans f1, (h.cellAt (j * 2 + 1) (by omega)).trans f2⟩

def unp (es : List (Int × Int)) : List (List Int) := es.map (fun e => [e.1, e.2])
theorem unp_len (es : List (Int × Int)) : (unp es).length = es.length := by simp [unp]
theorem unp_get {es : List (Int × Int)} {k : Nat} (h : k < es.length) : (unp es).getD k [] = [(es.getD k (0, 0)).1, (es.getD k (0, 0)).2] := by
  simp [unp, List.getD, h]

set_option maxHeartbeats 1600000 in
theorem graphWith (s : Int) (a : Option Addr) (n c : Nat) (es : List (Int × Int)) (w : World) (h : RdE w a es) (hn : es.length = n) (hn1 : n ≤ 1000) (hI : ∀ j, j < n → I64 (es.getD j (0, 0)).1 ∧ I64 (es.getD j (0, 0)).2) :
    Calls Try.prog 70 #[.int .i64 s, .slice a n c] w fun e w' => ∃ a' c', e = .returned (.agg #[.int .i64 s, .slice a' (unp es).length c']) ∧ OwR w.heap.size w'.heap.size w' (.slice a' (unp es).length c') (unp es) ∧ Below w.heap.size w w' := by
  obtain ⟨i0, hi', z0, z1, z2⟩ := info_parts Try.info45
  have HN := Lib.hid hn
  have HU := Lib.hid (show (unp es).length = n by rw [unp_len]; exact hn)
  have HC := Lib.hid h
  have HI := Lib.hid hI
  clear hn hI h
  go_enter Try.func70, Try.ntmps70
  go_wp2_with (at_make; refine wpList_make_full _ rfl _ _ 22 rfl (w.heap.size + 1) 45 i0 (.slice none 0 0) 1 Try.underlying22 hi' z0 z1 _ _ _ _ n rfl rfl rfl rfl ?c1 ?c2 ?c3 ?_)
  case c1 => rw [z2]; omega
  case c2 => unfold maxLen; omega
  case c3 => simp
  intro w1 hown hgr
  have hBx : w.heap.size + 1 < w1.heap.size := (hown.lt _ rfl).2
  have hP := OwP.made (x := w1.heap.size) hown (by omega)
  rw [← filled_zero (unp es) n] at hP
  have hbl : Below w.heap.size w w1 := ((Below.refl _ _).alloc (Nat.le_refl _) _).grown hgr (by simp) (by simp)
  have k0 : w1.cell? ⟨w.heap.size, 0, none⟩ = some (.int .i64 0) := hgr.cell (by go_simp) (by simp)
  have k1 : w1.cell? ⟨w.heap.size, 1, none⟩ = some (.slice none 0 0) := hgr.cell (by go_simp) (by simp)
  have f0 : w1.frozen? ⟨w.heap.size, 0, none⟩ = false := (hgr.frozen_far _ (by simp) (by simp)).trans (by go_simp)
  have f1 : w1.frozen? ⟨w.heap.size, 1, none⟩ = false := (hgr.frozen_far _ (by simp) (by simp)).trans (by go_simp)
  clear hgr hown
  obtain ⟨x, hx⟩ : ∃ x, x = w1.heap.size := ⟨_, rfl⟩
  have HX := Lib.hid hx
  rw [← hx] at hBx hP
  clear hx
  go_wp2
  rw [← HX.out]
  obtain ⟨G, hG⟩ : ∃ G, G = w.heap.size + 1 := ⟨_, rfl⟩
  rw [← hG] at hBx hP ⊢
  have hGw : w.heap.size < G := by omega
  have HGG := Lib.hid hG
  clear hG
  go_loopw [15, 6, 7] (fun i _ _ wr => ∃ (k : Nat) (rvs : List Value), k ≤ n ∧ i = .int .i64 k ∧ OwP G x wr G n n rvs (filled (unp es) k n) ∧ Below w.heap.size w wr ∧ x < wr.heap.size ∧
    wr.cell? ⟨w.heap.size, 0, none⟩ = some (.int .i64 0) ∧ wr.cell? ⟨w.heap.size, 1, none⟩ = some (.slice none 0 0) ∧ wr.frozen? ⟨w.heap.size, 0, none⟩ = false ∧ wr.frozen? ⟨w.heap.size, 1, none⟩ = false ∧
    wr.cell? ⟨x, 0, none⟩ = some (.int .i64 s) ∧ wr.cell? ⟨x, 1, none⟩ = some (.slice (some ⟨G, 0, none⟩) n n)) (fun i _ _ _ => n - (intOf i).toNat)
  case atStart =>
    have hb2 := (Below.refl w1.heap.size w1).alloc (Nat.le_refl _) (.cells #[.int .i64 s, .slice (some ⟨G, 0, none⟩) n n] 28)
    refine ⟨0, _, Nat.zero_le _, rfl, hP.below hb2, hbl.next hb2, by rw [HX.out]; simp, hb2.keep k0, hb2.keep k1, hb2.keepf (by show w.heap.size < _; have := HX.out; omega) f0, hb2.keepf (by show w.heap.size < _; have := HX.out; omega) f1, ?_, ?_⟩
    · rw [HX.out]; go_simp
    · rw [HX.out]; go_simp
  case round =>
    clear hP hbl k0 k1 f0 f1
    obtain ⟨k, rvs, hk, rfl, hP, hB, hxz, k0, k1, f0, f1, k2, k3⟩ := hrel
    by_cases hlt : k < n
    · obtain ⟨b, rfl, hb0, e0, e1⟩ := HC.out k (by rw [HN.out]; exact hlt)
      replace e0 := hB.keep e0
      replace e1 := hB.keep e1
      obtain ⟨i1, i2⟩ := HI.out k hlt
      have hrow := unp_get (es := es) (k := k) (by rw [HN.out]; exact hlt)
      generalize (es.getD k (0, 0)).1 = y0 at *
      generalize (es.getD k (0, 0)).2 = y1 at *
      have hst := filled_step (rows := unp es) HU.out hlt
      rw [hrow] at hst
      have HST := Lib.hid hst
      obtain ⟨ov, hcell⟩ : ∃ ov, wr.cell? ⟨G, k, none⟩ = some ov := ⟨_, (hP.row hlt).1⟩
      have hfr := hP.out.frozenAt k
      have hlt2 := hP.lt.2
      have hb2 : Below wr.heap.size wr ((wr.alloc (.cells #[.int .i64 y0, .int .i64 y1] 64)).alloc (.cells #[.int .i64 y0, .int .i64 y1] 2)) := ((Below.refl _ _).alloc (Nat.le_refl _) _).alloc (by simp) _
      have hrv := OwI.two (lo := wr.heap.size) (w := wr.alloc (.cells #[.int .i64 y0, .int .i64 y1] 64)) i1 i2 (by simp)
      have hsz1 : (wr.alloc (.cells #[.int .i64 y0, .int .i64 y1] 64)).heap.size = wr.heap.size + 1 := by simp
      rw [hsz1] at hrv
      have hput := hP.put hxz hb2 hlt hrv
      rw [hst] at hput
      have hch := (hb2.chg G (G + 1)).setCell (p := ⟨G, k, none⟩) ⟨Nat.le_refl _, Nat.lt_succ_self _⟩ (.slice (some ⟨wr.heap.size + 1, 0, none⟩) 2 2)
      have F := Lib.hid (show _ ∧ _ ∧ _ ∧ _ ∧ _ ∧ _ ∧ _ ∧ _ ∧ _ from ⟨hput, hB.chgn hch (Nat.le_of_lt hGw) hB.size, Nat.lt_of_lt_of_le hxz hch.size, hch.cell k0 (.inl hGw), hch.cell k1 (.inl hGw), hch.frozen (by show w.heap.size < _; omega) (.inl hGw) f0, hch.frozen (by show w.heap.size < _; omega) (.inl hGw) f1, hch.cell k2 (.inr hBx), hch.cell k3 (.inr hBx)⟩)
      rw [World.setCell_alloc_past _ _ _ _ (by rw [hsz1]; omega), World.setCell_alloc_past _ _ _ _ hlt2] at F
      clear hrow hst hput hch hb2 hrv hsz1 i1 i2
      go_wp2
      go_roundw
      case rel => exact ⟨k+1, _, by omega, by go_num, F.out⟩
      case measure => simp [intOf]; omega
    · go_wp2
      have e2 : filled (unp es) k n = unp es := by
        obtain rfl : k = n := by omega
        exact filled_all HU.out
      rw [e2] at hP
      have hch : Chg w.heap.size (w.heap.size + 1) wr ((wr.setCell ⟨w.heap.size, 0, none⟩ (.int .i64 s)).setCell ⟨w.heap.size, 1, none⟩ (.slice (some ⟨G, 0, none⟩) n n)) := by
        repeat (refine Chg.setCell ?_ (by constructor <;> simp <;> omega) _)
        exact Chg.refl _ _ _
      have hP2 := hP.chg hch (.inr hGw) (fun j hj q hq => Or.inr (Nat.le_trans hGw ((hP.rows.own j (by rw [hP.len]; exact hj)).blk q hq).1))
      refine bodyPost_ret (v := .agg #[.int .i64 s, .slice (some ⟨G, 0, none⟩) n n]) (by simp [results, Try.results70, go_sem, k0, k1, k2, k3]) rfl ⟨some ⟨G, 0, none⟩, n, by rw [HU.out], ?_, ?_⟩
      · exact (hP2.owr' (by omega)).mono (Nat.le_of_lt hGw) (Nat.le_refl _)
      · repeat (refine Below.setCell ?_ (by simp <;> omega) _)
        exact hB

end Go.Proofs.Ytecobmmlpoaggaa
