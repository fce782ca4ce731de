/- slices.Concat of a list and itself. -/
import Derived.Test.YtebgbplhcaocoaaConcat
set_option linter.unusedSimpArgs false
set_option linter.unusedVariables false
namespace Go.Proofs.Ytebgbplhcaocoaa
open Go.RowKit

def szD (n q : Nat) : Nat := if q = 0 then 0 else if q = 1 then n else n + n
def catD (ws : List Int) (q : Nat) : List Value := if q = 0 then [] else if q = 1 then ws.map (Value.int .i64) else ws.map (Value.int .i64) ++ ws.map (Value.int .i64)

set_option maxRecDepth 100000 in
set_option maxHeartbeats 6400000 in
theorem slConcat2 (Y b off n c1 : Nat) (ws : List Int) (w : World) (hl : ws.length = n) (h0 : 0 < n) (hn : n ≤ 20)
    (y0 : w.cell? ⟨Y, 0, none⟩ = some (.slice (some ⟨b, off, none⟩) n c1)) (y1 : w.cell? ⟨Y, 1, none⟩ = some (.slice (some ⟨b, off, none⟩) n c1))
    (hc : ∀ j, j < n → w.cell? ⟨b, off + j, none⟩ = some (.int .i64 (ws.getD j 0))) :
    Calls Try.prog 128 #[.slice (some ⟨Y, 0, none⟩) 2 2] w fun e w' => ∃ g c, e = .returned (.slice (some ⟨g, 0, none⟩) (n + n) c) ∧ w'.ownsRow w.heap.size 2 1 (.slice (some ⟨g, 0, none⟩) (n + n) c) (n + n) ((ws ++ ws).map (Value.int .i64)) ∧ Below w.heap.size w w' := by
  obtain ⟨i0, hi', z0, z1, z2⟩ := info_parts Try.info2
  have HC := Lib.hid hc
  have HL := Lib.hid hl
  clear hc hl
  go_enter Try.func128, Try.ntmps128
  go_wp2
  go_loopw [11, 3] (fun i v wr => ∃ q : Nat, q ≤ 2 ∧ i = .int .i64 q ∧ v = .int .i64 (szD n q) ∧ Qt w wr) (fun i _ _ => 2 - (intOf i).toNat)
  case atStart => exact ⟨0, by omega, rfl, rfl, Qt.refl _⟩
  case round =>
    obtain ⟨q, hq, rfl, rfl, hqt⟩ := hrel
    have k0 := hqt.below.keep y0
    have k1 := hqt.below.keep y1
    rcases (show q = 0 ∨ q = 1 ∨ q = 2 by omega) with rfl | rfl | rfl
    · have e0 : szD n 0 = 0 := rfl
      have hnn : ¬ ((n : Int) < 0) := by omega
      rw [e0]
      go_wp2
      go_roundw
      case rel => exact ⟨1, by omega, rfl, by simp [szD], hqt⟩
      case measure => simp [intOf]
    · have e0 : szD n 1 = n := rfl
      have hnn : ¬ ((n : Int) + (n : Int) < 0) := by omega
      rw [e0]
      go_wp2
      go_roundw
      case rel => exact ⟨2, by omega, rfl, by simp [szD], hqt⟩
      case measure => simp [intOf]
    · obtain ⟨U, rfl⟩ : ∃ U, U = wr := ⟨_, rfl⟩
      have e0 : ((szD n 2 : Nat) : Int) = ((n + n : Nat) : Int) := rfl
      rw [e0]
      have HQ := Lib.hid hqt
      clear k0 k1 hqt e0
      go_wp2_with fail
      refine (slGrowO (n + n) (by omega) (by omega) _).mono ?_
      rintro e w1 ⟨G, rfl, hG, o1, b1⟩
      have hB := HQ.out.below.next b1
      have hbase : w.heap.size ≤ U.heap.size := HQ.out.below.size
      have HO := Lib.hid o1
      have HBB := Lib.hid b1
      clear o1 b1
      go_wp2
      go_loopw [27, 6] (fun i v wr' => ∃ (q m : Nat), q ≤ 2 ∧ i = .int .i64 q ∧ m = szD n q ∧ wr'.ownsRow U.heap.size 2 1 v m (catD ws q) ∧ Below U.heap.size U wr' ∧ (∃ g c, v = .slice (some ⟨g, 0, none⟩) m c)) (fun i _ _ => 2 - (intOf i).toNat)
      case atStart => exact ⟨0, 0, by omega, rfl, rfl, HO.out, HBB.out, _, _, rfl⟩
      case round =>
        rename_i hrel
        obtain ⟨q, m, hq, rfl, hm, hown, hB', g, cg, rfl⟩ := hrel
        have hBw := HQ.out.below.next hB'
        have k0 := hBw.keep y0
        have k1 := hBw.keep y1
        have hwz := hB'.size
        rcases (show q = 0 ∨ q = 1 ∨ q = 2 by omega) with rfl | rfl | rfl
        · obtain rfl : m = 0 := hm
          have HW := Lib.hid (⟨hown, hB'⟩ : _ ∧ _)
          have hcl := Lib.hid (fun j hj => hBw.keep (HC.out j hj))
          have hnews : ∀ j u, (ws.map (Value.int .i64))[j]? = some u → wr.cell? ((⟨b, off, none⟩ : Addr).add j) = some u := fun j u hj => by
            have hjn : j < n := by
              have := (List.getElem?_eq_some_iff.1 hj).1
              rw [List.length_map, HL.out] at this; exact this
            rw [List.getElem?_map, List.getElem?_eq_getElem (by rw [HL.out]; exact hjn)] at hj
            simp only [Option.map_some, Option.some.injEq] at hj
            have := hcl.out j hjn
            rw [← hj, Addr.add_lit]
            simpa [List.getD, List.getElem?_eq_getElem (show j < ws.length by rw [HL.out]; exact hjn)] using this
          have hone : ∀ u ∈ ws.map (Value.int .i64), u.oneCell' = true := fun u hu => by
            obtain ⟨x, _, rfl⟩ := List.mem_map.1 hu
            rfl
          go_wp2_with (at_builtin; refine wpList_append_lies _ rfl _ _ 37 rfl U.heap.size 2 i0 (.int .i64 0) 1 8 Try.underlying37 hi' z0 z1 z2 rfl (by decide) _ _ _ rfl hown ⟨b, off, none⟩ n c1 (ws.map (Value.int .i64)) rfl (by rw [List.length_map, HL.out, Nat.mul_one]) hnews hone h0 (by unfold maxLen; omega) (by omega) hwz _ rfl ?_; intro g2 c3 w3 hown3 hgr hlie hlt3)
          rw [Nat.zero_add] at hown3
          have e9 : catD ws 0 ++ ws.map (Value.int .i64) = catD ws 1 := rfl
          rw [e9] at hown3
          have hB3 := hB'.grown hgr hwz (fun j hj => (hown.lt j hj).1)
          have HF := Lib.hid (⟨hown3, hB3⟩ : _ ∧ _)
          clear hown hB' hgr hlie hown3 hB3
          go_roundw
          case rel => exact ⟨1, n, by omega, rfl, by simp [szD], HF.out.1, HF.out.2, _, _, rfl⟩
          case measure => simp [intOf]
        · have hmn : m = n := hm
          subst hmn
          clear hm
          have HW := Lib.hid (⟨hown, hB'⟩ : _ ∧ _)
          have hcl := Lib.hid (fun j hj => hBw.keep (HC.out j hj))
          have hnews : ∀ j u, (ws.map (Value.int .i64))[j]? = some u → wr.cell? ((⟨b, off, none⟩ : Addr).add j) = some u := fun j u hj => by
            have hjn : j < m := by
              have := (List.getElem?_eq_some_iff.1 hj).1
              rw [List.length_map, HL.out] at this; exact this
            rw [List.getElem?_map, List.getElem?_eq_getElem (by rw [HL.out]; exact hjn)] at hj
            simp only [Option.map_some, Option.some.injEq] at hj
            have := hcl.out j hjn
            rw [← hj, Addr.add_lit]
            simpa [List.getD, List.getElem?_eq_getElem (show j < ws.length by rw [HL.out]; exact hjn)] using this
          have hone : ∀ u ∈ ws.map (Value.int .i64), u.oneCell' = true := fun u hu => by
            obtain ⟨x, _, rfl⟩ := List.mem_map.1 hu
            rfl
          go_wp2_with (at_builtin; refine wpList_append_lies _ rfl _ _ 37 rfl U.heap.size 2 i0 (.int .i64 0) 1 8 Try.underlying37 hi' z0 z1 z2 rfl (by decide) _ _ _ rfl hown ⟨b, off, none⟩ m c1 (ws.map (Value.int .i64)) rfl (by rw [List.length_map, HL.out, Nat.mul_one]) hnews hone h0 (by unfold maxLen; omega) (by omega) hwz _ rfl ?_; intro g2 c3 w3 hown3 hgr hlie hlt3)
          have e9 : catD ws 1 ++ ws.map (Value.int .i64) = catD ws 2 := rfl
          rw [e9] at hown3
          have hB3 := hB'.grown hgr hwz (fun j hj => (hown.lt j hj).1)
          have HF := Lib.hid (⟨hown3, hB3⟩ : _ ∧ _)
          clear hown hB' hgr hlie hown3 hB3
          go_roundw
          case rel => exact ⟨2, m + m, by omega, rfl, by simp [szD], HF.out.1, HF.out.2, _, _, rfl⟩
          case measure => simp [intOf]
        · obtain rfl : m = n + n := hm
          have HF := Lib.hid (⟨ownsRow_mono hown hbase, hBw⟩ : wr.ownsRow w.heap.size 2 1 (.slice (some ⟨g, 0, none⟩) (n + n) cg) (n + n) (catD ws 2) ∧ Below w.heap.size w wr)
          clear hown hB' hBw k0 k1
          go_wp2
          go_ret
          exact ⟨g, cg, rfl, by rw [List.map_append]; exact HF.out.1, HF.out.2⟩

end Go.Proofs.Ytebgbplhcaocoaa
