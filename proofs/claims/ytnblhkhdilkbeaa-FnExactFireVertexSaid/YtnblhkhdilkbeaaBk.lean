/- The model's way to a determinant (Berkowitz). -/
import Derived.Test.YtnblhkhdilkbeaaDetB
import Derived.Test.YtnblhkhdilkbeaaCoreG
import Derived.Test.YtnblhkhdilkbeaaOwn
import Derived.StillTailTactics
set_option linter.unusedSimpArgs false
set_option linter.unusedVariables false
set_option maxRecDepth 100000
namespace Go.Proofs.Ytnblhkhdilkbeaa
open Go.RowKit

/-- what the growth's loop keeps -/
structure growBI (N : Nat) (f : Nat → Nat → Int) (r : Nat) (U : World) (G : Nat) (W : World) (g cg k gc : Nat) : Prop where
  own : W.ownsRow G 2 1 (.slice (some ⟨g, 0, none⟩) (2 + k) cg) (2 + k) ((growB N f r k).map (Value.int .i64))
  col : RdL W gc (colB N f r k)
  sep : g ≠ gc
  below : Below U.heap.size U W
  base : U.heap.size ≤ G

set_option maxHeartbeats 6400000 in
theorem specBk {lo hi : Nat} (N : Nat) (f : Nat → Nat → Int) (a : Option Addr) (c : Nat) (w : World) (h : RdR lo hi w (.slice a N c) (tab N f)) (hN : N ≤ 20) :
    Calls Try.prog 146 #[.slice a N c] w fun e w' => ∃ a' c', e = .returned (.slice a' (trim (nowB N f N)).length c') ∧ OwI w.heap.size w'.heap.size w' (.slice a' (trim (nowB N f N)).length c') (trim (nowB N f N)) ∧ Below w.heap.size w w' := by
  obtain ⟨i0, hi', z0, z1, z2⟩ := info_parts Try.info2
  have HR := Lib.hid (fun W (hB : Below w.heap.size w W) i j (hi : i < N) (hj : j < N) => (h.below hB).ent hi hj)
  clear h
  have hl0 := World.ownsRow_lit (base := w.heap.size) (e := 2) (size := 1) w #[.int .i64 1] 1 (Nat.le_refl _) (by unfold maxLen; omega) rfl
  have hA0 : Below w.heap.size w (w.alloc (.cells #[.int .i64 1] 2)) := (Below.refl _ _).alloc (Nat.le_refl _) _
  have HS := Lib.hid (⟨hl0, hA0⟩ : (w.alloc (.cells #[.int .i64 1] 2)).ownsRow w.heap.size 2 1 (.slice (some ⟨w.heap.size, 0, none⟩) 1 1) 1 ((nowB N f 0).map (Value.int .i64)) ∧ _)
  clear hl0 hA0
  go_enter Try.func146, Try.ntmps146
  go_wp2
  obtain ⟨Y, hY⟩ : ∃ Y, Y = w.heap.size := ⟨_, rfl⟩
  rw [← hY] at HS ⊢
  have HY := Lib.hid hY
  clear hY
  generalize w.alloc (.cells #[.int .i64 1] 2) = V0 at HS ⊢
  go_loopw [3, 4] (fun d v wr => ∃ (r na nc : Nat), r ≤ N ∧ v = .int .i64 r ∧ d = .slice (some ⟨na, 0, none⟩) (r + 1) nc ∧ wr.ownsRow Y 2 1 (.slice (some ⟨na, 0, none⟩) (r + 1) nc) (r + 1) ((nowB N f r).map (Value.int .i64)) ∧ Below w.heap.size w wr) (fun _ v _ => N - (intOf v).toNat)
  case atStart => exact ⟨0, Y, 1, Nat.zero_le _, rfl, rfl, HS.out.1, by rw [HY.out] at HS; exact HS.out.2⟩
  case round =>
    clear HS
    obtain ⟨r, na, nc, hr, rfl, rfl, hown, hB⟩ := hrel
    obtain ⟨U, rfl⟩ : ∃ U, U = wr := ⟨_, rfl⟩
    by_cases hlt : r < N
    · have HU := Lib.hid (⟨hown, hB⟩ : _ ∧ _)
      obtain ⟨ab, ao, rb, ro, rc, rfl, x1, x2⟩ := HR.out U hB r r hlt hlt
      have hg0 : growB N f r 0 = [1, wrap64 (-(f r r))] := rfl
      generalize f r r = x at x2 hg0
      obtain ⟨z, hz⟩ : ∃ z, z = wrap64 (-x) := ⟨_, rfl⟩
      rw [← hz] at hg0
      have HG0 := Lib.hid hg0
      have hrN : (r : Int) < (N : Int) := by omega
      have n1 : IntKind.i64.wrap (-x) = z := by rw [IntWalk.i64_left, hz]
      have n2 : wrap64 (-x) = z := hz.symm
      have HN12 := Lib.hid (⟨n1, n2⟩ : _ ∧ _)
      clear hz hg0 hown hB
      obtain ⟨w3, hw3⟩ : ∃ w3, w3 = U := ⟨_, rfl⟩
      have q3 : Qt U w3 := by rw [hw3]; exact Qt.refl _
      rw [← hw3] at x1 x2 ⊢
      clear hw3
      have hT := World.ownsRow_lit (base := w3.heap.size) (e := 2) (size := 1) w3 #[.int .i64 1, .int .i64 z] 2 (Nat.le_refl _) (by unfold maxLen; omega) rfl
      have hA3 : Below w3.heap.size w3 (w3.alloc (.cells #[.int .i64 1, .int .i64 z] 2)) := (Below.refl _ _).alloc (Nat.le_refl _) _
      have hU3 : Below U.heap.size U w3 := q3.below
      have hs3 : U.heap.size ≤ w3.heap.size := q3.below.size
      have hT2 : (w3.alloc (.cells #[.int .i64 1, .int .i64 z] 2)).ownsRow w3.heap.size 2 1 (.slice (some ⟨w3.heap.size, 0, none⟩) 2 2) 2 ((growB N f r 0).map (Value.int .i64)) := by rw [HG0.out]; exact hT
      have HT := Lib.hid (⟨hT2, hU3.next hA3, hs3⟩ : _ ∧ _ ∧ _)
      have hC := World.ownsRow_lit (base := (w3.alloc (.cells #[.int .i64 1, .int .i64 z] 2)).heap.size) (e := 2) (size := 1) (w3.alloc (.cells #[.int .i64 1, .int .i64 z] 2)) #[] 0 (Nat.le_refl _) (by unfold maxLen; omega) rfl
      have hAC : Below (w3.alloc (.cells #[.int .i64 1, .int .i64 z] 2)).heap.size (w3.alloc (.cells #[.int .i64 1, .int .i64 z] 2)) ((w3.alloc (.cells #[.int .i64 1, .int .i64 z] 2)).alloc (.cells #[] 2)) := (Below.refl _ _).alloc (Nat.le_refl _) _
      have HC := Lib.hid (⟨hC, hAC⟩ : _ ∧ _)
      have HSZ : Hid ((w3.alloc (.cells #[.int .i64 1, .int .i64 z] 2)).heap.size = w3.heap.size + 1) := Lib.hid (by simp)
      clear hT hA3 hU3 hs3 hT2 hC hAC q3 HN12
      go_wp2
      clear x1 x2 n1 n2
      rw [← HSZ.out]
      generalize w3.heap.size = G at HT HC HSZ ⊢
      generalize w3.alloc (.cells #[.int .i64 1, .int .i64 z] 2) = V3 at HT HC HSZ ⊢
      generalize V3.alloc (.cells #[] 2) = V4 at HC ⊢
      obtain ⟨G1, hG1⟩ : ∃ G1, G1 = V3.heap.size := ⟨_, rfl⟩
      rw [← hG1] at HC HSZ ⊢
      have HG1 := Lib.hid hG1
      clear hG1
      -- the column above the row
      go_loopw [6, 7] (fun d v wr => ∃ (i gc cc : Nat), i ≤ r ∧ v = .int .i64 i ∧ d = .slice (some ⟨gc, 0, none⟩) i cc ∧ wr.ownsRow G1 2 1 (.slice (some ⟨gc, 0, none⟩) i cc) i (((colB N f r 0).take i).map (Value.int .i64)) ∧ Below G1 V3 wr) (fun _ v _ => r - (intOf v).toNat)
      case atStart => exact ⟨0, G1, 0, Nat.zero_le _, rfl, rfl, HC.out.1, HC.out.2⟩
      case round =>
        rename_i hrel
        clear HC
        obtain ⟨i, gc, cc, hi, rfl, rfl, hown, hb⟩ := hrel
        have hb' := hb
        rw [HG1.out] at hb'
        by_cases hlr : i < r
        · obtain ⟨ab2, ao2, rb2, ro2, rc2, ha2, y1, y2⟩ := HR.out wr (HU.out.2.next (HT.out.2.1.next hb')) i r (by omega) hlt
          obtain ⟨rfl, rfl⟩ : ab2 = ab ∧ ao2 = ao := by simp at ha2; exact ⟨ha2.1.symm, ha2.2.symm⟩
          have htk : (colB N f r 0).take (i + 1) = (colB N f r 0).take i ++ [f i r] := by
            rw [List.take_add_one]
            simp [colB, hlr]
          have HTK := Lib.hid htk
          generalize f i r = y at y2 HTK
          have hownV := hown.alloc (.cells #[.int .i64 y] 2)
          have hnews := news_one wr 2 (.int .i64 y)
          have hg0 := (hown.lt gc rfl).1
          have hs4 := hb.size
          have hs5 : G1 ≤ wr.heap.size := by have := hb'.size; have := HG1.out; omega
          have hU2 := hb.alloc hs5 (.cells #[.int .i64 y] 2)
          have hU2s := hU2.size
          have HU2 := Lib.hid hU2
          have hin : (i : Int) < (N : Int) := by omega
          clear htk hown hb hb' hU2 ha2
          go_wp2_with (at_builtin; refine wpList_append_lies _ rfl _ _ 25 rfl G1 2 i0 (.int .i64 0) 1 8 Try.underlying25 hi' z0 z1 z2 rfl (by decide) _ _ _ rfl hownV ⟨wr.heap.size, 0, none⟩ 1 1 [.int .i64 y] rfl rfl ?da1 ?da2 (by decide) ?da3 ?da4 ?da5 _ rfl ?_)
          case da1 => exact hnews
          case da2 => first | (intro u hu; simp at hu; subst hu; rfl) | rfl | simp
          case da3 => unfold maxLen; omega
          case da4 => omega
          case da5 => simp; omega
          intro g4 c4 w4 hown3 hgr hlie hlt3
          replace hown3 : w4.ownsRow G1 2 1 (.slice (some ⟨g4, 0, none⟩) (i + 1) c4) (i + 1) (((colB N f r 0).take (i + 1)).map (Value.int .i64)) := by
            rw [HTK.out]
            simpa using hown3
          have hb4 := HU2.out.grown hgr (by simp; omega) (fun q hq => by
            have : gc = q := by simpa [Value.ownBlock] using hq
            omega)
          have F := Lib.hid (⟨hown3, hb4⟩ : _ ∧ _)
          clear hown3 hb4 hgr hlie y1 y2 hownV hnews
          go_wp2
          go_roundw
          case rel => exact ⟨i+1, g4, c4, by omega, by go_num, rfl, F.out⟩
          case measure => simp [intOf]; omega
        · obtain rfl : i = r := by omega
          have hcl := hown.lt gc rfl
          have HB0 := Lib.hid (show growBI N f i U G wr G 2 0 gc from ⟨ownsRow_chg HT.out.1 ((Below.chg hb' 0 0)) (fun _ _ => .inr (Nat.zero_le _)), by
            have := RdL.own hown
            rw [List.take_of_length_le (by rw [colB_len]; exact Nat.le_refl _)] at this
            exact this, fun e => by have := hcl.1; have := HSZ.out; omega, HT.out.2.1.next hb', HT.out.2.2⟩)
          have hbw0 : Below w.heap.size w U := HU.out.2
          have HBW := Lib.hid hbw0
          clear hown hb hb' hcl hbw0 HG1 HSZ HT
          go_wp2
          go_loopw [5, 6, 8] (fun dt dc v wr => ∃ (k g cg gc cc : Nat), k ≤ i ∧ v = .int .i64 k ∧ dt = .slice (some ⟨g, 0, none⟩) (2 + k) cg ∧ dc = .slice (some ⟨gc, 0, none⟩) i cc ∧ growBI N f i U G wr g cg k gc) (fun _ _ v _ => i - (intOf v).toNat)
          case atStart => exact ⟨0, G, 2, gc, cc, Nat.zero_le _, rfl, rfl, rfl, HB0.out⟩
          case round =>
            rename_i hrel
            clear HB0
            obtain ⟨k, g, cg, gc, cc, hk, rfl, rfl, rfl, hI⟩ := hrel
            obtain ⟨U3, rfl⟩ : ∃ U3, U3 = wr := ⟨_, rfl⟩
            have HI := Lib.hid hI
            clear hI
            by_cases hlk : k < i
            · have hl3 := World.ownsRow_lit (base := U3.heap.size) (e := 2) (size := 1) U3 #[] 0 (Nat.le_refl _) (by unfold maxLen; omega) rfl
              have hb3 : Below U3.heap.size U3 (U3.alloc (.cells #[] 2)) := (Below.refl _ _).alloc (Nat.le_refl _) _
              have H3 := Lib.hid (⟨hl3, hb3⟩ : _ ∧ _)
              clear hl3 hb3
              go_wp2
              obtain ⟨G3, hG3⟩ : ∃ G3, G3 = U3.heap.size := ⟨_, rfl⟩
              rw [← hG3] at H3 ⊢
              have HG3 := Lib.hid hG3
              clear hG3
              generalize U3.alloc (.cells #[] 2) = V5 at H3 ⊢
              go_loopw [9, 10, 11] (fun ds dn v wr => ∃ (q gn cn : Nat), q ≤ i ∧ v = .int .i64 q ∧ ds = .int .i64 (gdot (colB N f i k) (rowB N f i) q) ∧ dn = .slice (some ⟨gn, 0, none⟩) q cn ∧ wr.ownsRow G3 2 1 (.slice (some ⟨gn, 0, none⟩) q cn) q (((mulB N f (colB N f i k) i).take q).map (Value.int .i64)) ∧ Below G3 U3 wr) (fun _ _ v _ => i - (intOf v).toNat)
              case atStart => exact ⟨0, G3, 0, Nat.zero_le _, rfl, rfl, rfl, H3.out.1, H3.out.2⟩
              case round =>
                rename_i hrel
                clear H3
                obtain ⟨q, gn, cn, hq, rfl, rfl, rfl, hown, hb⟩ := hrel
                obtain ⟨W3, rfl⟩ : ∃ W3, W3 = wr := ⟨_, rfl⟩
                have hb' := hb
                rw [HG3.out] at hb'
                by_cases hlq : q < i
                · have hBq := HBW.out.next (HI.out.below.next hb')
                  obtain ⟨ab2, ao2, rb2, ro2, rc2, ha2, y1, y2⟩ := HR.out W3 hBq i q hlt (by omega)
                  obtain ⟨rfl, rfl⟩ : ab2 = ab ∧ ao2 = ao := by simp at ha2; exact ⟨ha2.1.symm, ha2.2.symm⟩
                  have y3 := (HI.out.col.below hb') q (by rw [colB_len]; exact hlq)
                  have hst : gdot (colB N f i k) (rowB N f i) (q + 1) = wrap64 (gdot (colB N f i k) (rowB N f i) q + wrap64 (f i q * (colB N f i k).getD q 0)) := by
                    show wrap64 (_ + wrap64 ((rowB N f i).getD q 0 * _)) = _
                    rw [rowB_get (by omega)]
                  have HST := Lib.hid hst
                  generalize gdot (colB N f i k) (rowB N f i) q = s0 at HST ⊢
                  generalize (colB N f i k).getD q 0 = y at y3 HST
                  generalize f i q = x at y2 HST
                  have HK := Lib.hid (⟨hown, hb⟩ : _ ∧ _)
                  have HB' := Lib.hid hb'
                  obtain ⟨m, hm⟩ : ∃ m, m = wrap64 (x * y) := ⟨_, rfl⟩
                  obtain ⟨s2, hs2⟩ : ∃ s2, s2 = wrap64 (s0 + m) := ⟨_, rfl⟩
                  rw [← hm, ← hs2] at HST
                  have e1 : IntKind.i64.wrap (x * y) = m := by rw [IntWalk.i64_left, hm]
                  have e2 : wrap64 (x * y) = m := hm.symm
                  have e3 : IntKind.i64.wrap (s0 + m) = s2 := by rw [IntWalk.i64_left, hs2]
                  have e4 : wrap64 (s0 + m) = s2 := hs2.symm
                  have hqi : (q : Int) < (i : Int) := by clear hm hs2 e1 e2 e3 e4; omega
                  have hqN : (q : Int) < (N : Int) := by clear hm hs2 e1 e2 e3 e4; omega
                  have hiN : (i : Int) < (N : Int) := by clear hm hs2 e1 e2 e3 e4; omega
                  clear hm hs2 hst hown hb hb' ha2 hBq
                  go_wp2
                  go_quiet (fail)
                  go_wp2
                  clear e1 e2 e3 e4 y1 y2 y3
                  have hq0 : Qt W3 (W3.drewN nq) := (Qt.refl W3).drewN _
                  have HQ0 := Lib.hid hq0
                  clear hq0
                  generalize W3.drewN nq = wq at HQ0 ⊢
                  go_loopw [12, 13] (fun dv v wd => ∃ j : Nat, j ≤ i ∧ v = .int .i64 j ∧ dv = .int .i64 (gdot (colB N f i k) (rowB N f q) j) ∧ Qt W3 wd) (fun _ v _ => i - (intOf v).toNat)
                  case atStart => exact ⟨0, Nat.zero_le _, rfl, rfl, HQ0.out⟩
                  case round =>
                    rename_i hrel
                    clear HQ0
                    obtain ⟨j, hj, rfl, rfl, hqd⟩ := hrel
                    by_cases hlj : j < i
                    · obtain ⟨ab3, ao3, rb3, ro3, rc3, ha3, y1, y2⟩ := HR.out W3 (HBW.out.next (HI.out.below.next HB'.out)) q j (by omega) (by omega)
                      obtain ⟨rfl, rfl⟩ : ab3 = ab2 ∧ ao3 = ao2 := by simp at ha3; exact ⟨ha3.1.symm, ha3.2.symm⟩
                      have y3 := (HI.out.col.below HB'.out) j (by rw [colB_len]; exact hlj)
                      have hst : gdot (colB N f i k) (rowB N f q) (j + 1) = wrap64 (gdot (colB N f i k) (rowB N f q) j + wrap64 (f q j * (colB N f i k).getD j 0)) := by
                        show wrap64 (_ + wrap64 ((rowB N f q).getD j 0 * _)) = _
                        rw [rowB_get (by omega)]
                      replace y1 := hqd.cell y1
                      replace y2 := hqd.cell y2
                      replace y3 := hqd.cell y3
                      have hjN : (j : Int) < (N : Int) := by omega
                      have hji : (j : Int) < (i : Int) := by omega
                      generalize gdot (colB N f i k) (rowB N f q) j = t0 at hst ⊢
                      generalize (colB N f i k).getD j 0 = yy at y3 hst
                      generalize f q j = xx at y2 hst
                      obtain ⟨m2, hm⟩ : ∃ m, m = wrap64 (xx * yy) := ⟨_, rfl⟩
                      obtain ⟨s3, hs2⟩ : ∃ s2, s2 = wrap64 (t0 + m2) := ⟨_, rfl⟩
                      rw [← hm, ← hs2] at hst
                      have e1 : IntKind.i64.wrap (xx * yy) = m2 := by rw [IntWalk.i64_left, hm]
                      have e2 : wrap64 (xx * yy) = m2 := hm.symm
                      have e3 : IntKind.i64.wrap (t0 + m2) = s3 := by rw [IntWalk.i64_left, hs2]
                      have e4 : wrap64 (t0 + m2) = s3 := hs2.symm
                      have HS2 := Lib.hid hst
                      clear hst hm hs2 ha3
                      go_wp2
                      go_quiet (fail)
                      go_wp2
                      go_roundw
                      case rel => exact ⟨j+1, by clear e1 e2 e3 e4; omega, by go_num, by rw [HS2.out], hqd.drewN _⟩
                      case measure => clear e1 e2 e3 e4; simp [intOf]; omega
                    · obtain rfl : j = i := by omega
                      have htk : (mulB N f (colB N f j k) j).take (q + 1) = (mulB N f (colB N f j k) j).take q ++ [gdot (colB N f j k) (rowB N f q) j] := by
                        rw [List.take_add_one, List.getElem?_eq_getElem (by rw [mulB_len]; exact hlq)]
                        have := mulB_get (N := N) (f := f) (xs := colB N f j k) (L := j) hlq
                        simp only [List.getD, List.getElem?_eq_getElem (show q < (mulB N f (colB N f j k) j).length by rw [mulB_len]; exact hlq), Option.getD_some] at this
                        rw [this]
                        rfl
                      have HTK := Lib.hid htk
                      generalize gdot (colB N f j k) (rowB N f q) j = o0 at HTK ⊢
                      obtain ⟨hown, hb⟩ := HK.out
                      have hownd := ownsRow_chg hown (hqd.below.chg 0 0) (fun _ _ => .inr (Nat.zero_le _))
                      have hbd : Below G3 U3 wr := by rw [HG3.out]; exact HB'.out.qt hqd
                      have hownV := hownd.alloc (.cells #[.int .i64 o0] 2)
                      have hnews := news_one wr 2 (.int .i64 o0)
                      have hg0 := (hownd.lt gn rfl).1
                      have hs5 : G3 ≤ wr.heap.size := by have := hownd.lt gn rfl; omega
                      have hU2 := hbd.alloc hs5 (.cells #[.int .i64 o0] 2)
                      have hU2s := hU2.size
                      have HU2 := Lib.hid hU2
                      clear htk hown hb hbd hU2 hownd
                      go_wp2_with (at_builtin; refine wpList_append_lies _ rfl _ _ 25 rfl G3 2 i0 (.int .i64 0) 1 8 Try.underlying25 hi' z0 z1 z2 rfl (by decide) _ _ _ rfl hownV ⟨wr.heap.size, 0, none⟩ 1 1 [.int .i64 o0] rfl rfl ?db1 ?db2 (by decide) ?db3 ?db4 ?db5 _ rfl ?_)
                      case db1 => exact hnews
                      case db2 => first | (intro u hu; simp at hu; subst hu; rfl) | rfl | simp
                      case db3 => unfold maxLen; omega
                      case db4 => omega
                      case db5 => simp; omega
                      intro g4 c4 w4 hown3 hgr hlie hlt3
                      replace hown3 : w4.ownsRow G3 2 1 (.slice (some ⟨g4, 0, none⟩) (q + 1) c4) (q + 1) (((mulB N f (colB N f j k) j).take (q + 1)).map (Value.int .i64)) := by
                        rw [HTK.out]
                        simpa using hown3
                      have hb4 := HU2.out.grown hgr (by simp; omega) (fun q' hq' => by
                        have : gn = q' := by simpa [Value.ownBlock] using hq'
                        omega)
                      have F := Lib.hid (⟨hown3, hb4⟩ : _ ∧ _)
                      clear hown3 hb4 hgr hlie hownV hnews HU2 HTK
                      go_wp2
                      go_roundw
                      case rel => exact ⟨q+1, g4, c4, by omega, by go_num, by rw [HST.out], rfl, F.out⟩
                      case measure => simp [intOf]; omega
                · obtain rfl : q = i := by omega
                  have hful : (mulB N f (colB N f q k) q).take q = colB N f q (k + 1) := by
                    rw [List.take_of_length_le (by rw [mulB_len]; exact Nat.le_refl _)]; rfl
                  rw [hful] at hown
                  have hgst : growB N f q (k + 1) = growB N f q k ++ [wrap64 (-(gdot (colB N f q k) (rowB N f q) q))] := rfl
                  generalize gdot (colB N f q k) (rowB N f q) q = s0 at hgst ⊢
                  obtain ⟨z3, hz3⟩ : ∃ z3, z3 = wrap64 (-s0) := ⟨_, rfl⟩
                  rw [← hz3] at hgst
                  have HGS := Lib.hid hgst
                  have n1 : IntKind.i64.wrap (-s0) = z3 := by rw [IntWalk.i64_left, hz3]
                  have n2 : wrap64 (-s0) = z3 := hz3.symm
                  have HNX := Lib.hid (⟨hown, hb'⟩ : _ ∧ _)
                  clear hz3 hgst hful hown hb hb'
                  obtain ⟨w6, hw6⟩ : ∃ w6, w6 = W3 := ⟨_, rfl⟩
                  have q6 : Qt W3 w6 := by rw [hw6]; exact Qt.refl _
                  rw [← hw6]
                  clear hw6
                  have hb6 : Below U3.heap.size U3 w6 := HNX.out.2.qt q6
                  have ht6 := ownsRow_chg HI.out.own (hb6.chg 0 0) (fun _ _ => .inr (Nat.zero_le _))
                  have ht7 := ht6.alloc (.cells #[.int .i64 z3] 2)
                  have hnews := news_one w6 2 (.int .i64 z3)
                  have hgl := HI.out.own.lt g rfl
                  have hgn := HNX.out.1.lt gn rfl
                  have hqs := q6.below.size
                  have hGw : G ≤ w6.heap.size := by have := ht6.lt g rfl; omega
                  have HN6 := Lib.hid (⟨(RdL.own HNX.out.1).below q6.below, ht6, HI.out.below.next hb6, hgl, hgn, hqs, hGw⟩ : _ ∧ _ ∧ _ ∧ _ ∧ _ ∧ _ ∧ _)
                  clear hb6 ht6 q6 hgl hgn hqs HNX
                  go_wp2_with (first | (at_builtin; refine wpList_append_lies _ rfl _ _ 25 rfl G 2 i0 (.int .i64 0) 1 8 Try.underlying25 hi' z0 z1 z2 rfl (by decide) _ _ _ rfl ht7 ⟨w6.heap.size, 0, none⟩ 1 1 [.int .i64 z3] rfl rfl ?dc1 ?dc2 (by decide) ?dc3 ?dc4 ?dc5 _ rfl ?_) | fail)
                  case dc1 => exact hnews
                  case dc2 => first | (intro u hu; simp at hu; subst hu; rfl) | rfl | simp
                  case dc3 => unfold maxLen; omega
                  case dc4 => omega
                  case dc5 => simp; omega
                  intro g7 c7 w7 hown3 hgr hlie hlt3
                  have HNI : Hid (growBI N f q U G w7 g7 c7 (k + 1) gn) := Lib.hid (by
                    obtain ⟨r1, r2, r3, r4, r5, r6, r7⟩ := HN6.out
                    have hGU := HI.out.base
                    have hg3 := HG3.out
                    refine ⟨?_, r1.grown hgr (fun e => ?_), fun e => ?_, (r3.alloc (by have := r3.size; omega) _).grown hgr (by have := r3.size; simp; omega) (fun q' hq' => ?_), hGU⟩
                    · rw [HGS.out, List.map_append]; exact hown3
                    · simp [Value.ownBlock] at e; omega
                    · rcases hlie with h9 | h9
                      · simp [Value.ownBlock] at h9; omega
                      · first | omega | (simp at h9; omega)
                    · have : g = q' := by simpa [Value.ownBlock] using hq'
                      omega)
                  clear hown3 hgr hlie ht7 hnews HN6 hGw n1 n2
                  go_wp2
                  go_roundw
                  case rel => exact ⟨k+1, g7, c7, gn, cn, by omega, by go_num, by simp [Nat.add_assoc], rfl, HNI.out⟩
                  case measure => simp [intOf]; omega
            · obtain rfl : k = i := by omega
              obtain ⟨M2, hM2⟩ : ∃ M2, M2 = k + 2 := ⟨_, rfl⟩
              have hk20 : M2 ≤ 22 := by omega
              have n1 : IntKind.i64.wrap ((k : Int) + 2) = (M2 : Int) := by rw [show (k : Int) + 2 = (M2 : Int) by omega]; exact IntWalk.i64_in _ (by clear hM2; omega)
              have n2 : wrap64 ((k : Int) + 2) = (M2 : Int) := by rw [show (k : Int) + 2 = (M2 : Int) by clear n1; omega]; exact IntWalk.wrap64_in _ (by clear hM2 n1; omega)
              have HM2 := Lib.hid hM2
              have hM20 : (0 : Int) ≤ (M2 : Int) := by clear n1 n2 hM2; omega
              clear hM2
              go_wp2_with (at_make; refine wpList_make_full _ rfl _ _ 25 rfl U3.heap.size 2 i0 (.int .i64 0) 1 Try.underlying25 hi' z0 z1 _ _ _ _ M2 rfl rfl rfl rfl ?mc1 ?mc2 ?mc3 ?_)
              case mc1 => rw [z2]; clear n1 n2; omega
              case mc2 => clear n1 n2; unfold maxLen; omega
              case mc3 => exact Nat.le_refl _
              clear n1 n2
              intro w9 hown9 hgr9
              rw [setTo_zero (nowB N f (k + 1)) M2] at hown9
              have hb9 : Below U3.heap.size U3 w9 := (Below.refl _ _).grown hgr9 (Nat.le_refl _) (by simp)
              have HNL : Hid ((nowB N f (k + 1)).length = M2) := Lib.hid (by rw [nowB_len, HM2.out])
              have HTR := Lib.hid (RdL.own HI.out.own)
              have HNR := Lib.hid ((RdL.own HU.out.1).below HI.out.below)
              have H9 := Lib.hid (⟨hown9, hb9⟩ : _ ∧ _)
              obtain ⟨G5, hG5⟩ : ∃ G5, G5 = U3.heap.size := ⟨_, rfl⟩
              rw [← hG5] at H9 ⊢
              have HG5 := Lib.hid hG5
              clear hown9 hb9 hgr9 hG5
              go_wp2
              go_loopw [15] (fun v wr => ∃ t : Nat, t ≤ M2 ∧ v = .int .i64 t ∧ wr.ownsRow G5 2 1 (.slice (some ⟨G5, 0, none⟩) M2 M2) M2 (setTo (nowB N f (k + 1)) t M2) ∧ Below G5 U3 wr) (fun v _ => M2 - (intOf v).toNat)
              case atStart => exact ⟨0, Nat.zero_le _, rfl, H9.out⟩
              case round =>
                rename_i hrel
                clear H9
                obtain ⟨t, ht, rfl, hown, hb⟩ := hrel
                obtain ⟨W3, rfl⟩ : ∃ W3, W3 = wr := ⟨_, rfl⟩
                by_cases hlm : t < M2
                · have hgt := setTo_get (nowB N f (k + 1)) t M2 HNL.out hlm
                  have hnl := hown.1
                  have hs0 : (setTo (nowB N f (k + 1)) t M2).set t (.int .i64 (bkC (nowB N f k) (growB N f k k) t 0)) = setTo (nowB N f (k + 1)) t M2 := by
                    refine List.ext_getElem? fun q => ?_
                    rw [List.getElem?_set]
                    by_cases e : t = q
                    · subst e; rw [if_pos rfl, hgt]; simp [hnl, bkC]; omega
                    · rw [if_neg e]
                  have HF0 := Lib.hid (⟨by rw [hs0]; exact hown, hb⟩ : W3.ownsRow G5 2 1 (.slice (some ⟨G5, 0, none⟩) M2 M2) M2 ((setTo (nowB N f (k + 1)) t M2).set t (.int .i64 (bkC (nowB N f k) (growB N f k k) t 0))) ∧ _)
                  clear hown hb hgt hs0
                  go_wp2
                  go_loopw [16] (fun v wr2 => ∃ j : Nat, j ≤ k + 1 ∧ j ≤ t + 1 ∧ v = .int .i64 j ∧ wr2.ownsRow G5 2 1 (.slice (some ⟨G5, 0, none⟩) M2 M2) M2 ((setTo (nowB N f (k + 1)) t M2).set t (.int .i64 (bkC (nowB N f k) (growB N f k k) t j))) ∧ Below G5 U3 wr2) (fun v _ => k + 1 - (intOf v).toNat)
                  case atStart => exact ⟨0, Nat.zero_le _, Nat.zero_le _, rfl, HF0.out⟩
                  case round =>
                    rename_i hrel
                    clear HF0
                    obtain ⟨j, hj1, hj2, rfl, hown, hb⟩ := hrel
                    by_cases hgo : j < k + 1 ∧ j ≤ t
                    · obtain ⟨hg1, hg2⟩ := hgo
                      have hM := HM2.out
                      have hb' := hb
                      rw [HG5.out] at hb'
                      have c0 := (hown.cellAt t (by omega)).trans (show ((setTo (nowB N f (k + 1)) t M2).set t (.int .i64 (bkC (nowB N f k) (growB N f k k) t j)))[t]? = some (.int .i64 (bkC (nowB N f k) (growB N f k k) t j)) by
                        rw [List.getElem?_set, if_pos rfl, if_pos (by omega)])
                      have f0 := hown.frozenAt t
                      have y2 := (HTR.out.below hb') (t - j) (by rw [growB_len]; omega)
                      have y3 := (HNR.out.below hb') j (by rw [nowB_len]; omega)
                      have hst : bkC (nowB N f k) (growB N f k k) t (j + 1) = wrap64 (bkC (nowB N f k) (growB N f k k) t j + wrap64 ((growB N f k k).getD (t - j) 0 * (nowB N f k).getD j 0)) := by
                        conv => lhs; unfold bkC
                        rw [if_pos ⟨hg2, by rw [growB_len]; omega⟩]
                      have HOW := Lib.hid (⟨hown, hb⟩ : _ ∧ _)
                      obtain ⟨D, hD⟩ : ∃ D, D = t - j := ⟨_, rfl⟩
                      rw [← hD] at y2 hst
                      have hDi : (t : Int) - (j : Int) = (D : Int) := by omega
                      have hD2 : (D : Int) < ((2 + k : Nat) : Int) := by omega
                      have hD4 : (D : Int) < 2 + (k : Int) := by omega
                      have h12 : (j : Int) < (k : Int) + 1 := by omega
                      have hD0 : (0 : Int) ≤ (D : Int) := by omega
                      have htM : (t : Int) < (M2 : Int) := by omega
                      have h10 : (j : Int) < ((k + 1 : Nat) : Int) := by omega
                      have h9 : (j : Int) ≤ (t : Int) := by omega
                      have hDw : Hid (IntKind.i64.wrap (D : Int) = (D : Int) ∧ wrap64 (D : Int) = (D : Int)) := Lib.hid ⟨IntWalk.i64_in _ (by omega), IntWalk.wrap64_in _ (by omega)⟩
                      have hD3 : D < 2 + k := by omega
                      clear hD hM hown hb hb' hnl
                      generalize bkC (nowB N f k) (growB N f k k) t j = t0 at hst c0 HOW
                      generalize (nowB N f k).getD j 0 = yy at y3 hst
                      generalize (growB N f k k).getD D 0 = xx at y2 hst
                      obtain ⟨m2, hm⟩ : ∃ m, m = wrap64 (xx * yy) := ⟨_, rfl⟩
                      obtain ⟨u2, hs2⟩ : ∃ s2, s2 = wrap64 (t0 + m2) := ⟨_, rfl⟩
                      rw [← hm, ← hs2] at hst
                      have e1 : IntKind.i64.wrap (xx * yy) = m2 := by rw [IntWalk.i64_left, hm]
                      have e2 : wrap64 (xx * yy) = m2 := hm.symm
                      have e3 : IntKind.i64.wrap (t0 + m2) = u2 := by rw [IntWalk.i64_left, hs2]
                      have e4 : wrap64 (t0 + m2) = u2 := hs2.symm
                      have HS2 := Lib.hid hst
                      have hownd : wr.drew.ownsRow G5 2 1 (.slice (some ⟨G5, 0, none⟩) M2 M2) M2 ((setTo (nowB N f (k + 1)) t M2).set t (.int .i64 t0)) := ownsRow_chg HOW.out.1 ((Qt.refl wr).drew.chg 0 0) (fun _ _ => .inr (Nat.zero_le _))
                      have hsd := (hownd.stored t (.int .i64 u2)).1
                      rw [List.set_set, ← HS2.out] at hsd
                      have hbd : Below G5 U3 (wr.drew.setCell ⟨G5, t, none⟩ (.int .i64 u2)) := (HOW.out.2.drew).setCell (p := ⟨G5, t, none⟩) (Nat.le_refl _) _
                      have HFS := Lib.hid (⟨by rw [HS2.out] at hsd ⊢; exact hsd, hbd⟩ : (wr.drew.setCell ⟨G5, t, none⟩ (.int .i64 u2)).ownsRow G5 2 1 (.slice (some ⟨G5, 0, none⟩) M2 M2) M2 ((setTo (nowB N f (k + 1)) t M2).set t (.int .i64 (bkC (nowB N f k) (growB N f k k) t (j + 1)))) ∧ _)
                      have d0 : wr.drew.cell? ⟨G5, t, none⟩ = _ := c0
                      have d1 : wr.drew.frozen? ⟨G5, t, none⟩ = _ := f0
                      have d2 : wr.drew.cell? ⟨g, D, none⟩ = _ := y2
                      have d3 : wr.drew.cell? ⟨na, j, none⟩ = _ := y3
                      clear hst hm hs2 hownd hsd hbd HOW
                      obtain ⟨w1', w2'⟩ := hDw.out
                      go_wp2
                      go_still_tail 19, (by kernel_rfl)
                      change wpList _ _ _ _ _ wr.drew
                      clear c0 f0 y2 y3 e1 e2 e3 e4 w1' w2'
                      generalize wr.drew = Z at HFS d0 d1 d2 d3 ⊢
                      go_wp2
                      go_roundw
                      case rel => exact ⟨j+1, by omega, by omega, by go_num, HFS.out⟩
                      case measure => simp [intOf]; omega
                    · have hfin : (setTo (nowB N f (k + 1)) t M2).set t (.int .i64 (bkC (nowB N f k) (growB N f k k) t j)) = setTo (nowB N f (k + 1)) (t + 1) M2 := by
                        have hM := HM2.out
                        have e1 : bkC (nowB N f k) (growB N f k k) t j = (nowB N f (k + 1)).getD t 0 := by
                          rw [nowB_get (by omega)]
                          by_cases e : j = k + 1
                          · rw [e]
                          · have e2 : j = t + 1 := by omega
                            rw [e2, show k + 1 = t + 1 + (k - t) by omega]
                            exact (bkC_ge _).symm
                        rw [e1]
                        exact setTo_step _ t M2 HNL.out hlm
                      rw [hfin] at hown
                      have HF1 := Lib.hid (⟨hown, hb⟩ : _ ∧ _)
                      clear hown hb hfin hnl
                      by_cases hj3 : j < k + 1
                      · have h8 : ¬ j ≤ t := by omega
                        have h9 : ¬ (j : Int) ≤ (t : Int) := by omega
                        have h10 : (j : Int) < ((k + 1 : Nat) : Int) := by omega
                        go_wp2
                        go_roundw
                        case rel => exact ⟨t+1, by omega, by go_num, HF1.out⟩
                        case measure => simp [intOf]; omega
                      · have h10 : ¬ (j : Int) < ((k + 1 : Nat) : Int) := by omega
                        go_wp2
                        go_roundw
                        case rel => exact ⟨t+1, by omega, by go_num, HF1.out⟩
                        case measure => simp [intOf]; omega
                · obtain rfl : t = M2 := by omega
                  rw [setTo_all (nowB N f (k + 1)) t HNL.out] at hown
                  have HFO : Hid (W3.ownsRow Y 2 1 (.slice (some ⟨G5, 0, none⟩) t t) t ((nowB N f (k + 1)).map (Value.int .i64)) ∧ Below w.heap.size w W3) := Lib.hid (by
                    have h1 := HG5.out
                    rw [HG5.out] at hb
                    have h2 := HBW.out.next (HI.out.below.next hb)
                    have h3 := HBW.out.size
                    have h4 := HI.out.below.size
                    have h5 := HY.out
                    exact ⟨ownsRow_mono hown (by omega), h2⟩)
                  have HQ : Hid (t = k + 1 + 1) := HM2
                  clear hown hb
                  go_wp2
                  go_roundw
                  case rel => exact ⟨k+1, G5, t, by omega, by go_num, by rw [← HQ.out], by rw [← HQ.out]; exact HFO.out⟩
                  case measure => simp [intOf]; omega
    · obtain rfl : r = N := by omega
      have hI : ∀ x ∈ nowB r f r, I64 x := fun x hx => by
        obtain ⟨q, hq, rfl⟩ := List.getElem_of_mem hx
        have hq' := hq
        rw [nowB_len] at hq'
        have h2 := nowB_I64 r f r q hq'
        have e1 : (nowB r f r).getD q 0 = (nowB r f r)[q] := by simp [List.getD, List.getElem?_eq_getElem hq]
        rw [← e1]; exact h2
      have hO := OwI.mk hown (by omega) hI
      rw [← nowB_len r f r] at hO
      have HCAP : Hid (r + 1 ≤ nc) := Lib.hid (by
        rcases hown.2 with ⟨h1, _⟩ | ⟨_, _, _, hv, _, _, hle, _⟩
        · simp at h1
        · simp only [Value.slice.injEq] at hv; omega)
      have HTR := Lib.hid (l01Trim (.slice (some ⟨na, 0, none⟩) (r + 1) nc) (nowB r f r) U (fun a' n' c' e => by simp only [Value.slice.injEq] at e; have := HCAP.out; omega) (by have := hO.rd; rw [nowB_len] at this; exact this))
      have HB := Lib.hid hB
      clear hown hB hO hI
      go_wp2_with fail
      refine HTR.out.mono ?_
      rintro e w9 ⟨a9, c9, rfl, o9, b9⟩
      have HO := Lib.hid (⟨OwI.mono o9 HB.out.size (Nat.le_refl _), HB.out.next b9⟩ : _ ∧ _)
      clear o9 b9 HTR
      go_wp2
      go_ret
      exact ⟨a9, c9, rfl, HO.out⟩

end Go.Proofs.Ytnblhkhdilkbeaa
