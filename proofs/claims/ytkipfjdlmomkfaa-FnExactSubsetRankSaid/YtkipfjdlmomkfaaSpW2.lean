/- Graphs with some edges alone, by the model: the loop. -/
import Derived.Test.YtkipfjdlmomkfaaSpWi
set_option linter.unusedSimpArgs false
set_option linter.unusedVariables false
set_option maxRecDepth 100000
namespace Go.Proofs.Ytkipfjdlmomkfaa
open Go.RowKit

theorem bits_and1 : ∀ d ∈ List.range 1024, (bits BinOp.and IntKind.i64 (d : Int) 1 == 1) = decide (d % 2 = 1) := by decide +kernel
theorem bit_test {C k : Nat} (hC : C < 1024) : (bits BinOp.and IntKind.i64 ((C : Int) / 2 ^ k) 1 == 1) = C.testBit k := by
  have e1 : ((C : Int) / 2 ^ k) = ((C / 2 ^ k : Nat) : Int) := by rw [Int.natCast_ediv, Int.natCast_pow]; rfl
  have hd : C / 2 ^ k < 1024 := Nat.lt_of_le_of_lt (Nat.div_le_self _ _) hC
  rw [e1, bits_and1 _ (List.mem_range.2 hd), Nat.testBit_eq_decide_div_mod_eq]
theorem HdR.chg {B0 L g m cc lo hi : Nat} {rvs : List Value} {rows : List (List Int)} {W W' : World} (h : HdR B0 L g m cc rvs rows W) (hc : Chg lo hi W W') (hg : g < lo ∨ hi ≤ g) (hb : B0 ≤ lo) : HdR B0 L g m cc rvs rows W' :=
  ⟨ownsRow_chg h.own hc (fun k e => by have e2 : g = k := by simpa [Value.ownBlock] using e
                                       rw [← e2]; exact hg), h.len, fun j hj => (h.row j hj).chg hc (.inl hb)⟩
theorem HdR.snoc {B0 L g g2 m cc c3 : Nat} {rvs : List Value} {rows : List (List Int)} {W W' : World} (h : HdR B0 L g m cc rvs rows W) (hc : Chg g (g + 1) W W') (hg : B0 ≤ g) {rv : Value} {ys : List Int}
    (hown : W'.ownsRow L 35 1 (.slice (some ⟨g2, 0, none⟩) (m + 1) c3) (m + 1) (rvs ++ [rv])) (hr : RdI 0 B0 W rv ys) : HdR B0 L g2 (m + 1) c3 (rvs ++ [rv]) (rows ++ [ys]) W' := by
  have hrl : rvs.length = m := by have := h.own.1; simpa using this
  have hl := h.len
  refine ⟨hown, by rw [List.length_append, hl]; rfl, fun j hj => ?_⟩
  by_cases e : j < m
  · have e1 : (rvs ++ [rv]).getD j (.slice none 0 0) = rvs.getD j (.slice none 0 0) := by simp [List.getD, List.getElem?_append_left (show j < rvs.length by omega)]
    have e2 : (rows ++ [ys]).getD j [] = rows.getD j [] := by simp [List.getD, List.getElem?_append_left (show j < rows.length by omega)]
    rw [e1, e2]
    exact (h.row j e).chg hc (.inl hg)
  · obtain rfl : j = m := by omega
    have e1 : (rvs ++ [rv]).getD j (.slice none 0 0) = rv := by simp [List.getD, ← hrl]
    have e2 : (rows ++ [ys]).getD j [] = ys := by simp [List.getD, ← hl]
    rw [e1, e2]
    exact hr.chg hc (.inl hg)

set_option maxHeartbeats 1600000 in
theorem l05With {lo hi : Nat} (S : Nat) (a : Option Addr) (n c : Nat) (xss : List (List Int)) (C : Nat) (w : World) (h : RdR lo hi w (.slice a n c) xss) (hn : xss.length = n) (hn10 : n ≤ 10) (hC : C < 1024) :
    Calls Try.prog 103 #[.agg #[.int .i64 (S : Int), .slice a n c], .int .i64 (C : Int)] w fun e w' => ∃ g m cc, e = .returned (.agg #[.int .i64 (S : Int), .slice (some ⟨g, 0, none⟩) m cc]) ∧ RdR 0 w'.heap.size w' (.slice (some ⟨g, 0, none⟩) m cc) (withR xss C n) ∧ (withR xss C n).length = m ∧ Below w.heap.size w w' := by
  obtain ⟨i0, hi', z0, z1, z2⟩ := info_parts Try.info35
  have HN := Lib.hid hn
  have HR := Lib.hid h
  clear hn h
  have hlit : ((w.alloc (.cells #[.int .i64 (S : Int), .slice a n c] 28)).alloc (.cells #[.int .i64 0, .slice none 0 0] 28)).heap.size = w.heap.size + 1 + 1 := by simp
  have hl0 := World.ownsRow_lit (base := w.heap.size + 1 + 1) (e := 35) (size := 1) ((w.alloc (.cells #[.int .i64 (S : Int), .slice a n c] 28)).alloc (.cells #[.int .i64 0, .slice none 0 0] 28)) #[] 0 (by rw [hlit]; exact Nat.le_refl _) (by unfold maxLen; omega) rfl
  rw [hlit] at hl0
  have hl1 := hl0.alloc (.cells #[.int .i64 (S : Int), .slice (some ⟨w.heap.size + 1 + 1, 0, none⟩) 0 0] 28)
  have HL := Lib.hid hl1
  clear hl0 hlit hl1
  go_enter Try.func103, Try.ntmps103
  go_wp2
  obtain ⟨x, hx⟩ : ∃ x, x = w.heap.size + 1 + 1 + 1 := ⟨_, rfl⟩
  obtain ⟨R, hR⟩ : ∃ R, R = w.heap.size + 1 := ⟨_, rfl⟩
  obtain ⟨G, hG⟩ : ∃ G, G = w.heap.size + 1 + 1 := ⟨_, rfl⟩
  rw [← hG] at HL
  rw [← hx, ← hG, ← hR]
  have hord : w.heap.size < R ∧ R < G ∧ G < x := by omega
  have HXE := Lib.hid (⟨hx, hR, hG⟩ : _ ∧ _ ∧ _)
  clear hx hR hG
  go_loopw [6] (fun i wr => ∃ (k m g c' : Nat) (rvs : List Value), k ≤ n ∧ i = .int .i64 k ∧ HdR w.heap.size G g m c' rvs (withR xss C k) wr ∧ g ≠ x ∧ m ≤ k ∧ Below w.heap.size w wr ∧ x < wr.heap.size ∧
    wr.cell? ⟨w.heap.size, 1, none⟩ = some (.slice a n c) ∧ wr.cell? ⟨R, 0, none⟩ = some (.int .i64 0) ∧ wr.cell? ⟨R, 1, none⟩ = some (.slice none 0 0) ∧ wr.frozen? ⟨R, 0, none⟩ = false ∧ wr.frozen? ⟨R, 1, none⟩ = false ∧
    wr.cell? ⟨x, 0, none⟩ = some (.int .i64 (S : Int)) ∧ wr.cell? ⟨x, 1, none⟩ = some (.slice (some ⟨g, 0, none⟩) m c') ∧ wr.frozen? ⟨x, 1, none⟩ = false) (fun i _ => n - (intOf i).toNat)
  case atStart =>
    obtain ⟨e1, e2, e3⟩ := HXE.out
    refine ⟨0, 0, G, 0, [], Nat.zero_le _, rfl, ⟨HL.out, rfl, fun j hj => by omega⟩, by omega, Nat.le_refl _, ?_, ?_, ?_, ?_, ?_, ?_, ?_, ?_, ?_, ?_⟩
    · exact ((((Below.refl _ _).alloc (Nat.le_refl _) _).alloc (by simp) _).alloc (by simp; omega) _).alloc (by simp; omega) _
    · rw [e1]; simp
    · go_simp
    · rw [e2]; go_simp
    · rw [e2]; go_simp
    · rw [e2]; go_simp
    · rw [e2]; go_simp
    · rw [e1]; go_simp
    · rw [e1, e3]; go_simp
    · rw [e1]; go_simp
  case round =>
    obtain ⟨k, m, g, c', rvs, hk, rfl, hP, hgx, hmk, hB, hxz, k1, k2, k3, f2, f3, k4, k5, f5⟩ := hrel
    by_cases hlt : k < n
    · have hbt := bit_test (k := k) hC
      cases ht : C.testBit k with
      | false =>
        rw [ht] at hbt
        have hwr : withR xss C (k + 1) = withR xss C k := by unfold withR; rw [bits_out ht]
        have HF := Lib.hid (⟨by rw [hwr]; exact hP, hgx, by omega, hB, hxz, k1, k2, k3, f2, f3, k4, k5, f5⟩ : HdR w.heap.size G g m c' rvs (withR xss C (k + 1)) wr ∧ g ≠ x ∧ m ≤ k + 1 ∧ _ ∧ _ ∧ _ ∧ _ ∧ _ ∧ _ ∧ _ ∧ _ ∧ _ ∧ _)
        clear hP hB hwr ht k2 k3 f2 f3 k4 k5 f5
        go_wp2
        go_roundw
        case rel => exact ⟨k+1, m, g, c', rvs, by omega, by go_num, HF.out⟩
        case measure => simp [intOf]; omega
      | true =>
        rw [ht] at hbt
        have hwr : withR xss C (k + 1) = withR xss C k ++ [xss.getD k []] := by unfold withR; rw [bits_in ht, List.map_append]; rfl
        obtain ⟨b, off, rv, rfl, h1, r1⟩ := (HR.out.below hB).at HN.out k hlt
        obtain ⟨ra, rc, hrs⟩ := r1.shape
        have hr0 : RdI 0 w.heap.size wr rv (xss.getD k []) := by
          obtain ⟨b', off', rv', ee, q1, q2⟩ := HR.out.at HN.out k hlt
          simp only [Option.some.injEq, Addr.mk.injEq] at ee
          obtain ⟨rfl, rfl, _⟩ := ee
          have q3 := hB.keep q1
          rw [h1] at q3
          simp only [Option.some.injEq] at q3
          subst q3
          exact q2.wide.below hB
        generalize hys : xss.getD k [] = ys at *
        generalize ys.length = rn at hrs
        subst hrs
        have HST := Lib.hid hwr
        have HP := Lib.hid (⟨hP, hr0⟩ : _ ∧ _)
        have HB := Lib.hid hB
        have HF := Lib.hid (⟨k1, k2, k3, f2, f3, k4⟩ : _ ∧ _ ∧ _ ∧ _ ∧ _ ∧ _)
        have hgl := hP.own.lt g rfl
        have hVB : Below wr.heap.size wr wr.drew := (Qt.refl wr).drew.below
        have hAB := hVB.alloc (show wr.heap.size ≤ wr.heap.size from Nat.le_refl _) (.cells #[.slice ra rn rc] 35)
        have kd5 := hVB.keep k5
        have ka5 := hAB.keep k5
        have ka1 := hAB.keep k1
        have kd1 := hVB.keep k1
        have hd1 := hVB.keep h1
        have hown1 := ownsRow_chg hP.own (hAB.chg 0 0) (fun _ _ => .inr (Nat.zero_le _))
        have hnews := news_one wr.drew 35 (.slice ra rn rc)
        have hone : ∀ u ∈ [Value.slice ra rn rc], u.oneCell' = true := fun u hu => by simp at hu; subst hu; rfl
        have hbase : G ≤ (wr.drew.alloc (.cells #[.slice ra rn rc] 35)).heap.size := by have := hAB.size; omega
        have hm63 : m + 1 ≤ maxLen := by unfold maxLen; omega
        have hby : (m + 1) * 24 ≤ 140737488355328 := by omega
        have hgxx : x < g ∨ g + 1 ≤ x := by omega
        have HVB := Lib.hid hVB
        clear hwr hP hB hr0 r1 hys k2 k3 f2 f3 k4 hVB ht
        go_wp2
        go_region_law (first
          | (refine step_append_lies (wr.drew.alloc (.cells #[.slice ra rn rc] 35)) rfl (.tmp 25) (.tmp 31) 22 rfl G 35 i0 (.slice none 0 0) 1 24 Try.underlying22 hi' z0 z1 z2 rfl (by decide) (.slice (some ⟨g, 0, none⟩) m c') m rvs (by simp [Act.eval, Act.put]) hown1 ⟨wr.drew.heap.size, 0, none⟩ 1 1 [.slice ra rn rc] (by simp [Act.eval, Act.put]) rfl hnews hone (by decide) hm63 hby hbase (wr.drew.alloc (.cells #[.slice ra rn rc] 35)).heap.size rfl ?_; intro g2 c3 w3 hown3 hgr hlie hlt3; have hch := snocC HVB.out hgr; have y5 := hch.cell k5 hgxx; have yf5 := hch.frozen (show x < wr.heap.size from hxz) hgxx f5))
        all_goals
          have hgw : w.heap.size ≤ g := by omega
          have hP3 := HP.out.1.snoc hch hgw hown3 HP.out.2
          rw [← HST.out] at hP3
          have hbx : Chg x (x+1) w3 (w3.setCell ⟨x, 1, none⟩ (.slice (some ⟨g2, 0, none⟩) (m + 1) c3)) := (Chg.refl x (x+1) _).setCell (p := ⟨x, 1, none⟩) ⟨Nat.le_refl _, Nat.lt_succ_self _⟩ _
          have hg2x : g2 ≠ x := by
            rcases hlie with e | e
            · have e2 : g = g2 := Option.some.inj e
              omega
            · have hsz : (wr.drew.alloc (.cells #[.slice ra rn rc] 35)).heap.size = wr.drew.heap.size + 1 := by simp
              have hsz2 : wr.drew.heap.size = wr.heap.size := rfl
              omega
          have hP4 := hP3.chg hbx (by omega) (by omega)
          obtain ⟨p1, p2, p3, q2, q3, p4⟩ := HF.out
          have hRz : R < wr.heap.size := by omega
          have z1 := hbx.cell (hch.cell p1 (show w.heap.size < g ∨ _ by left; omega)) (show w.heap.size < x ∨ _ by left; omega)
          have z2 := hbx.cell (hch.cell p2 (show R < g ∨ _ by left; omega)) (show R < x ∨ _ by left; omega)
          have z3 := hbx.cell (hch.cell p3 (show R < g ∨ _ by left; omega)) (show R < x ∨ _ by left; omega)
          have z4 := hbx.frozen (Nat.lt_of_lt_of_le hRz hch.size) (show R < x ∨ _ by left; omega) (hch.frozen hRz (show R < g ∨ _ by left; omega) q2)
          have z5 := hbx.frozen (Nat.lt_of_lt_of_le hRz hch.size) (show R < x ∨ _ by left; omega) (hch.frozen hRz (show R < g ∨ _ by left; omega) q3)
          have z6 := (hch.cell p4 hgxx)
          have z60 : (w3.setCell ⟨x, 1, none⟩ (.slice (some ⟨g2, 0, none⟩) (m + 1) c3)).cell? ⟨x, 0, none⟩ = some (.int .i64 (S : Int)) := by rw [World.cell?_setCell_other _ _ _ _ (by simp)]; exact z6
          have z7 : (w3.setCell ⟨x, 1, none⟩ (.slice (some ⟨g2, 0, none⟩) (m + 1) c3)).cell? ⟨x, 1, none⟩ = some (.slice (some ⟨g2, 0, none⟩) (m + 1) c3) := World.cell?_setCell_same _ _ _ y5
          have z8 : (w3.setCell ⟨x, 1, none⟩ (.slice (some ⟨g2, 0, none⟩) (m + 1) c3)).frozen? ⟨x, 1, none⟩ = false := by rw [World.frozen?_setCell]; exact yf5
          have hB3 : Below w.heap.size w (w3.setCell ⟨x, 1, none⟩ (.slice (some ⟨g2, 0, none⟩) (m + 1) c3)) := (HB.out.chgn hch hgw (by omega)).setCell (p := ⟨x, 1, none⟩) (by show w.heap.size ≤ x; omega) _
          have hxz3 : x < (w3.setCell ⟨x, 1, none⟩ (.slice (some ⟨g2, 0, none⟩) (m + 1) c3)).heap.size := by rw [World.size_setCell]; exact Nat.lt_of_lt_of_le hxz hch.size
          have HZ := Lib.hid (⟨hP4, hg2x, hB3, hxz3, z1, z2, z3, z4, z5, z60, z7, z8⟩ : _ ∧ _ ∧ _ ∧ _ ∧ _ ∧ _ ∧ _ ∧ _ ∧ _ ∧ _ ∧ _ ∧ _)
          clear hP3 hbx hP4 p1 p2 p3 q2 q3 p4 z1 z2 z3 z4 z5 z6 z60 z7 z8 hB3 hown3 hgr hlie hch y5 yf5 hown1 hnews hone hbase
          go_wp2
          go_roundw
          case rel => exact ⟨k+1, m+1, g2, c3, rvs ++ [.slice ra rn rc], by omega, by go_num, HZ.out.1, HZ.out.2.1, by omega, HZ.out.2.2⟩
          case measure => simp [intOf]; omega
    · obtain rfl : k = n := by omega
      have hrd := hP.rd (by omega)
      have hbx2 : Chg R (R+1) wr ((wr.setCell ⟨R, 0, none⟩ (.int .i64 (S : Int))).setCell ⟨R, 1, none⟩ (.slice (some ⟨g, 0, none⟩) m c')) := by
        repeat (refine Chg.setCell ?_ (by constructor <;> simp) _)
        exact Chg.refl _ _ _
      have hgR : R < g := by have := (hP.own.lt g rfl).1; omega
      have hP2 := hP.chg hbx2 (by omega) (by omega)
      have hrd2 := hP2.rd (by omega)
      have y0 : ((wr.setCell ⟨R, 0, none⟩ (.int .i64 (S : Int))).setCell ⟨R, 1, none⟩ (.slice (some ⟨g, 0, none⟩) m c')).cell? ⟨R, 0, none⟩ = some (.int .i64 (S : Int)) := by
        rw [World.cell?_setCell_other _ _ _ _ (by simp)]; exact World.cell?_setCell_same _ _ _ k2
      have y1 : ((wr.setCell ⟨R, 0, none⟩ (.int .i64 (S : Int))).setCell ⟨R, 1, none⟩ (.slice (some ⟨g, 0, none⟩) m c')).cell? ⟨R, 1, none⟩ = some (.slice (some ⟨g, 0, none⟩) m c') := World.cell?_setCell_same _ _ _ (by rw [World.cell?_setCell_other _ _ _ _ (by simp)]; exact k3)
      have HZ := Lib.hid (⟨hrd2, hP2.len, hB.chgn hbx2 (by omega) (by omega), y0, y1⟩ : _ ∧ _ ∧ _ ∧ _ ∧ _)
      clear hP hP2 hrd hrd2 hB hbx2 y0 y1
      go_wp2
      obtain ⟨q1, q2, q3, q4, q5⟩ := HZ.out
      refine bodyPost_ret (v := .agg #[.int .i64 (S : Int), .slice (some ⟨g, 0, none⟩) m c']) (by simp [results, Try.results103, go_sem, q4, q5]) rfl ⟨g, m, c', rfl, q1, q2, q3⟩

end Go.Proofs.Ytkipfjdlmomkfaa
