/- Contract of journal.Pack, where it packs. -/
import Derived.Test.YtfcicpcpdklceaaSJPackB
import Derived.Deep.RegionLaw
namespace Go.Proofs.Ytfcicpcpdklceaa
set_option maxRecDepth 100000
open Go.ChangeShapes Go.WideShapes Go.ChangeAt Go.RowKit Go.PlainAid Go.Shelf
attribute [local go_sem] Oper.semAt_some
attribute [local go_sem ↓ high] app_text

set_option maxRecDepth 100000 in
set_option maxHeartbeats 4000000 in
theorem pack_ok (w : World) (v : Value) (l : List PageV) (hl : PagesIn w v l) (hlen : l.length ≤ 1024) (hok : ∀ p ∈ l, p.err = 0) :
    Calls Try.prog 40 #[v] w fun e w' => ∃ sv, e = .returned (.tuple #[sv, .int .i64 0]) ∧ w'.ownsRow w.heap.size 9 1 sv (packT l).length (packT l) ∧ Below w.heap.size w w' := by
  have hv : ∃ ao cap, v = .slice ao l.length cap := by
    rcases hl with ⟨rfl, ao, cap, rfl⟩ | ⟨b, o, cap, rfl, _⟩
    · exact ⟨_, _, rfl⟩
    · exact ⟨_, _, rfl⟩
  obtain ⟨ao, cap, rfl⟩ := hv
  have H0 := Lib.hid hl
  clear hl
  have hbig : decide ((1024 : Int) < (l.length : Int)) = false := decide_eq_false (by omega)
  refine (callsIn_wide (n := 10)).1 ?_
  refine callsIn_of_wp_marks Try.func40 rfl trivial ?_ rfl
  simp only [Try.ntmps40, List.size_toArray, List.length_cons, List.length_nil, Nat.reduceAdd, Nat.reduceSub, Array.replicate_succ, Array.replicate_zero, List.push_toArray, List.append_toArray, List.nil_append, List.cons_append]
  refine wpIn_mono (Q := retPost _) (wpIn_wide.2 ?_) retPost_le
  go_wp2_with fail
  have hf0 := Lib.fresh_isBuilder 99 5 w
  have hb0 : Below w.heap.size w (w.alloc (.cells #[.pointer none, .slice none 0 0] 99)) := by go_grown
  generalize w.alloc (.cells #[.pointer none, .slice none 0 0] 99) = W0 at *
  refine (jfixed_any (l.length : Int) W0).mono ?_
  rintro e w1 ⟨rfl, hb1⟩
  have hf1 := bld_on hf0 hb1
  have hb2 := hb0.on hb1
  have H1 := Lib.hid hf1
  have H2 := Lib.hid hb2
  clear hf0 hb0 hb1 hf1 hb2
  go_wp2_with fail
  refine (bwrite_any w.heap.size w.heap.size [] (fixS (uZ (l.length : Int)) 4) w1 H1.out (by rw [fixS4_size]; decide) H2.out.size).mono ?_
  rintro e w2 ⟨rfl, hB2, hbb⟩
  have HA : Hid (HeadAt w w2 (l.length : Int) []) := ⟨H2.out.trans hbb, .inr (by rw [headT_nil]; exact hB2)⟩
  clear hB2 hbb H1 H2
  go_wp2_with fail
  go_loopw [21] (fun i wr => ∃ k : Nat, k ≤ l.length ∧ i = .int .i64 k ∧ HeadAt w wr (l.length : Int) (l.take k)) (fun i _ => l.length - (intOf i).toNat)
  case atStart => exact ⟨0, Nat.zero_le _, rfl, HA.out⟩
  case round =>
    clear HA
    obtain ⟨k, hk, rfl, hH⟩ := hrel
    have HH := Lib.hid hH
    clear hH
    by_cases hlt : k < l.length
    · obtain ⟨x, hx⟩ : ∃ x, l[k]? = some x := ⟨_, List.getElem?_eq_getElem hlt⟩
      rcases H0.out with ⟨rfl, _⟩ | ⟨b, o, cap', hvv, hbl, _, _, hr⟩
      · simp at hlt
      · cases hvv
        obtain ⟨hxw, hxr⟩ := hr k x hx
        have hxr2 := rangeAt_keep hxr (HH.out.1.block b hbl)
        have hx0 : x.err = 0 := hok x (List.mem_of_getElem? hx)
        have HX0 := Lib.hid hx0
        have HXW := Lib.hid hxw
        have e0 := hxr2 0 _ rfl
        have e1 := hxr2 1 _ rfl
        rw [Nat.add_zero] at e0
        have hx2 : l.take (k + 1) = l.take k ++ [x] := by rw [List.take_add_one, hx]; rfl
        have HT := Lib.hid hx2
        clear hr hxr hxr2 hx hx0 hxw hx2
        go_wp2_with fail
        have hq0 := heap_alloc_new wr (.cells #[.int .i64 x.at_, .string x.data] 49)
        have hbp : Below wr.heap.size wr (wr.alloc (.cells #[.int .i64 x.at_, .string x.data] 49)) := by go_grown
        generalize wr.alloc (.cells #[.int .i64 x.at_, .string x.data] 49) = W3 at *
        refine (check_any x W3 HXW.out).mono ?_
        rintro e w3 ⟨rfl, hb3⟩
        rw [HX0.out]
        have hq3 := (hb3.block _ (heap_lt' hq0)).trans hq0
        have m0 : w3.cell? ⟨wr.heap.size, 0, none⟩ = some (.int .i64 x.at_) := by rw [cell_of_row _ _ _ _ _ _ hq3]; rfl
        have HH3 := Lib.hid (HH.out.on (hbp.on hb3))
        clear hq0 hbp hb3 hq3
        go_wp2_with fail
        refine (jfixed_any x.at_ w3).mono ?_
        rintro e w4 ⟨rfl, hb4⟩
        have HH4 := Lib.hid (HH3.out.on hb4)
        clear hb4 m0
        go_wp2_with fail
        refine (bwrite_any w.heap.size w.heap.size _ (fixS (uZ x.at_) 4) w4 HH4.out.2 (by rw [fixS4_size]; have := headT_size (l.length : Int) k l (by omega); rw [Lib.byteCells_length, ← Lib.size_eq, this]; omega) HH4.out.1.size).mono ?_
        rintro e w5 ⟨rfl, hB5, hbb⟩
        have H5 := Lib.hid (HH4.out.write hbb hB5)
        clear hB5 hbb
        go_wp2
        go_roundw
        case rel => exact ⟨k + 1, by omega, by go_num, by rw [HT.out]; exact H5.out⟩
        case measure => simp [intOf]; omega
    · obtain rfl : k = l.length := by omega
      rw [List.take_length] at HH
      go_wp2_with fail
      refine (blocks_any l.length wr (by omega)).mono ?_
      rintro e _ ⟨rfl, rfl⟩
      obtain ⟨i0, hi, hz0, hz1, hz2⟩ := info_parts info_text
      obtain ⟨wm, hmk, hrow, hgm⟩ := run_make_own (P := Try.prog) wr w.heap.size 31 9 i0 (.string ⟨#[]⟩) 1 Try.underlying31 hi hz0 hz1 .i64 .i64 (blocksN l.length) (by rw [hz2]; unfold blocksN; omega) (by unfold blocksN maxLen; omega) HH.out.1.size
      have hbm : Below wr.heap.size wr wm := (Below.refl _ _).grown hgm (Nat.le_refl _) (fun k e => by cases e)
      have HHM := Lib.hid (HH.out.on hbm)
      have HBM := Lib.hid hbm
      have HROW := Lib.hid hrow
      clear hrow hgm hbm HH
      go_wp2_with fail
      have hq0 : Boxed (wm.alloc (.cells #[.slice (some ⟨wr.heap.size, 0, none⟩) 0 (blocksN l.length)] 31)) wm.heap.size 31 (.slice (some ⟨wr.heap.size, 0, none⟩) 0 (blocksN l.length)) := Boxed.new _ _ _
      have hbb : Below wm.heap.size wm (wm.alloc (.cells #[.slice (some ⟨wr.heap.size, 0, none⟩) 0 (blocksN l.length)] 31)) := by go_grown
      have hHB := HHM.out.on hbb
      have hBA : BlocksAt w.heap.size wm.heap.size (wm.alloc (.cells #[.slice (some ⟨wr.heap.size, 0, none⟩) 0 (blocksN l.length)] 31)) [] := ⟨_, hq0, ownsRow_on HROW.out hbb⟩
      have hbx : w.heap.size ≤ wm.heap.size := HHM.out.1.size
      generalize wm.alloc (.cells #[.slice (some ⟨wr.heap.size, 0, none⟩) 0 (blocksN l.length)] 31) = WB at *
      generalize wm.heap.size = bx at *
      have hS : (headT (l.length : Int) l).size = 4 + 4 * l.length := by have := headT_size (l.length : Int) l.length l (Nat.le_refl _); rwa [List.take_length] at this
      obtain ⟨S, hSS⟩ : ∃ S, headT (l.length : Int) l = S := ⟨_, rfl⟩
      obtain ⟨cB, hcB⟩ := builder_block hHB.2
      unfold HeadAt at hHB
      rw [hSS] at hS hHB
      have HSS := Lib.hid hSS
      have HS := Lib.hid hS
      refine (bstr_any w.heap.size w.heap.size S.data.toList WB hHB.2 hHB.1.size).mono ?_
      rintro e w6 ⟨rfl, hb6, ho6⟩
      have HB6 := Lib.hid (hHB.1.trans hb6)
      have HBA := Lib.hid (hBA.others ho6 hcB)
      have HBX := Lib.hid hbx
      rw [show (⟨S.data.toList.toArray⟩ : ByteArray) = S from rfl]
      clear hq0 hbb hHB hBA hbx hSS hS hb6 ho6 hcB HHM HROW HBM hmk
      have hcv := Lib.run_convert_string_bytes (P := Try.prog) w6 9 78 5 S Try.underlying9 Try.underlying78 Try.underlying5
      obtain ⟨hy1, hy2, hy3, _⟩ := bytes_facts w6 5 S
      obtain ⟨cby, fby, hy0⟩ : ∃ c fz, (Lib.bytesWorld w6 5 S).heap[w6.heap.size]? = some (.cells c 5 fz) := ⟨_, _, Lib.bytesWorld_at_new w6 5 S⟩
      generalize Lib.bytesWorld w6 5 S = w7 at *
      have HY1 := Lib.hid hy1
      have HY2 := Lib.hid hy2
      have HY3 := Lib.hid hy3
      have HY0 := Lib.hid hy0
      clear hy0 hy1 hy2 hy3
      go_wp2_with fail
      generalize hgcE : grownCap w6 S.size 0 5 = gc at *
      refine (chunk_any w6.heap.size S.size gc w7).mono ?_
      rintro e w8 ⟨rfl, rfl⟩
      go_wp2_with fail
      have hgc : S.size ≤ gc := by rw [← hgcE]; exact grownCap_ge _ _ _ _
      have hq1 := heap_alloc2_old w7 (.cells #[.slice (some ⟨w6.heap.size, 0, none⟩) S.size gc] 78) (.cells #[.int .i64 256] 3)
      have hq2 := heap_alloc2_new w7 (.cells #[.slice (some ⟨w6.heap.size, 0, none⟩) S.size gc] 78) (.cells #[.int .i64 256] 3)
      have hb8 : Below w7.heap.size w7 ((w7.alloc (.cells #[.slice (some ⟨w6.heap.size, 0, none⟩) S.size gc] 78)).alloc (.cells #[.int .i64 256] 3)) := by go_grown
      generalize (w7.alloc (.cells #[.slice (some ⟨w6.heap.size, 0, none⟩) S.size gc] 78)).alloc (.cells #[.int .i64 256] 3) = W8 at *
      have hg7 : w6.heap.size < w7.heap.size := by rw [HY2.out]; omega
      have hby8 : ∀ j, j < S.size → W8.cell? ⟨w6.heap.size, j, none⟩ = some (.int .u8 (bt S j)) := fun j hj => (hb8.cell (p := ⟨w6.heap.size, j, none⟩) hg7).trans (HY3.out j hj)
      have hbb8 : Below w.heap.size w W8 := (HB6.out.on HY1.out).on hb8
      have hg8 := (hb8.block _ hg7).trans HY0.out
      have hbxg : bx < w6.heap.size := by
        obtain ⟨v, h1, _⟩ := HBA.out
        exact h1.lt
      have hba8 : BlocksAt w.heap.size bx W8 [] := (HBA.out.on HY1.out).on hb8
      have h8 := heap_lt' hq1
      have h8' := heap_lt' hq2
      generalize w6.heap.size = g at *
      generalize w7.heap.size = bs at *
      refine (wpIn_wide (n := 9)).1 ?_
      refine wpIn_rangeFunc_ownG (w0 := W8) rfl (by decide) (gf := 79) (lb := #[.pointer (some ⟨bs, 0, none⟩), .pointer (some ⟨bs + 1, 0, none⟩)]) rfl trivial (enters_of Try.func79 (by kernel_rfl) rfl)
        (chunk_stops bs (bs + 1) g S.size gc (by have := HS.out; omega) hgc W8 hq1 hq2) (fun h k => KpB.trans h k)
        (fun W l o o' hl _ _ _ => ⟨World.putObj_heap_other (by omega), World.putObj_heap_other (by omega)⟩) (Below.refl _ _) (fun _ => rfl)
        (fun pre W => BlocksAt w.heap.size bx W (pre.map fun k => .string (filled (chunkT S k))) ∧ (W.heap[g]? = W8.heap[g]? ∧ W.heap[bs]? = W8.heap[bs]? ∧ W.heap[bs + 1]? = W8.heap[bs + 1]?) ∧ pre.length ≤ chunks S.size ∧ Below w.heap.size w W)
        (fun _ _ _ => False) ?own (fun _ _ _ _ _ hs _ _ => hs) ⟨hba8, ⟨rfl, rfl, rfl⟩, Nat.zero_le _, hbb8⟩ ?a1 ?assign ?body ?done ?stop
      case own =>
        rintro pre X Y row ⟨⟨v, h1, h2⟩, ⟨k1, k2, k3⟩, hln, hB⟩ hgr hr
        have hold : ∀ k o, W8.heap[k]? = some o → X.heap[k]? = W8.heap[k]? → Y.heap[k]? = W8.heap[k]? := fun k o ho hx => (hgr.block k (heap_lt' (hx.trans ho)) (fun e => by
          have := (hr k e.symm).1
          have := heap_lt' ho
          omega)).trans hx
        obtain ⟨v', h1', h2', _⟩ := holdsRow_own w.heap.size bx 31 9 1 (fun pre : List Nat => (pre.map fun k => Value.string (filled (chunkT S k))).length) (fun pre => pre.map fun k => Value.string (filled (chunkT S k))) (fun _ _ => True) pre X Y row ⟨v, h1, h2, trivial⟩ hgr (fun r e => (hr r e).2)
        exact ⟨⟨v', h1', h2'⟩, ⟨hold _ _ hg8 k1, hold _ _ hq1 k2, hold _ _ hq2 k3⟩, hln, hB.grown hgr hB.size (fun k e => Nat.le_trans hbb8.size (hr k e).1)⟩
      case assign =>
        intro l x W K hK
        gi_wp2
        exact hK
      case body =>
        rintro lp pre x W ⟨⟨v, hv, hrow⟩, ⟨k1, k2, k3⟩, _, hB⟩ hlt
        obtain ⟨va, vn, vc, rfl⟩ : ∃ a n c, v = .slice a n c := by
          rcases hrow.2 with ⟨h, _⟩ | ⟨g', cap', cur, h, _⟩
          · exact ⟨_, _, _, h⟩
          · exact ⟨_, _, _, h⟩
        have hmx : Try.prog.follows .mixedOrders = true := by kernel_rfl
        have hcell : ∀ j, j < S.size → W.drew.cell? ⟨g, j, none⟩ = some (.int .u8 (bt S j)) := fun j hj => (World.cell?_of_block (w := W8) (a := ⟨g, j, none⟩) k1).trans (hby8 j hj)
        have hc2 := conv_text (P := Try.prog) 78 5 9 Try.underlying78 Try.underlying5 Try.underlying9 W.drew g (256 * x) (chunkN S.size x) (chunkN S.size x) (chunkT S x) (chunkT_size S x) (chunk_range hcell x)
        have hc3 : (convert 78 9 (chunkV g S.size x)).run Try.prog W.drew = .ok (.string (chunkT S x)) W.drew := hc2
        have hsz : (chunkT S x).size ≤ 256 := by rw [chunkT_size]; unfold chunkN; omega
        have hvc := hv.cell
        have hd : 1 ≤ 9 - 1 - 1 := by omega
        have HV := Lib.hid hv
        have HROW := Lib.hid hrow
        have HK1 := Lib.hid k1
        have HK2 := Lib.hid k2
        have HK3 := Lib.hid k3
        have HBW := Lib.hid hB
        have HSZ := Lib.hid hsz
        have HLN : Hid ((pre.map fun k => Value.string (filled (chunkT S k))).length ≤ 1048576) := by
          show _ ≤ _
          rw [List.length_map]
          have := HS.out
          unfold chunks at hlt
          omega
        clear hcell hc2 hv hrow k1 k2 k3 hB hsz
        gi_wp2
        gi_region_with_o (refine ⟨trivial, ?_⟩; gi_at_call 57; refine (CallsIn.inRound lp (callsIn_wide.2 (fill_any (chunkT S x) _ HSZ.out))).mono ?_; rintro e w1 ⟨rfl, hb1⟩; obtain ⟨gg, cp, w2, p1, p2, p3, p4, p5, p6, p7, p8⟩ := blocks_push HV.out HROW.out ((show Below W.heap.size W W.drew by go_grown).on hb1) HBW.out.size HBX.out HLN.out (filled (chunkT S x)) pre.length (List.length_map ..); have hne1 : w1.heap.size ≠ bx := (Nat.ne_of_lt (World.block_lt_of_cell? w1 _ p1)).symm; have hne2 : bx ≠ w1.heap.size := Nat.ne_of_lt (World.block_lt_of_cell? w1 _ p1); have p1a := ((show Below w1.heap.size w1 (w1.alloc (.cells #[.string (filled (chunkT S x))] 9)) by go_grown).cell (p := ⟨bx, 0, none⟩) (World.block_lt_of_cell? w1 _ p1)).trans p1; have P5 := Lib.hid p5; have P6 := Lib.hid p6; have P7 := Lib.hid p7; have P8 := Lib.hid p8; clear p5 p6 p7 p8 hb1)
        all_goals gi_wp2
        all_goals
          have HG := P8.out
          have l1 := HG bs _ _ _ (HK2.out.trans hq1) (by have := HY2.out; omega) (by decide)
          have l2 := HG (bs + 1) _ _ _ (HK3.out.trans hq2) (by have := HY2.out; omega) (by decide)
          have l3 := HG g _ _ _ (HK1.out.trans hg8) (by omega) (by decide)
          exact ⟨P6.out.from _, ⟨l1, l2⟩, by rw [List.map_append]; exact P5.out, ⟨l3.trans HK1.out, l1.trans HK2.out, l2.trans HK3.out⟩, by rw [List.length_append]; exact hlt, HBW.out.trans P7.out⟩
      case done =>
        rintro D ys W hD rfl ⟨hBA, _, _, hB⟩ hK
        have hwD : w.heap.size ≤ D := Nat.le_trans hbb8.size hD
        have HBA2 : Hid (BlocksAt w.heap.size bx W (numT S)) := hBA
        have HB2 := Lib.hid hB
        have HK := Lib.hid hK
        have HD := Lib.hid hwD
        clear hBA hB hK hwD hD hbb8 hba8 hby8 hg8 hq1 hq2 hb8 hbxg h8 h8' hcv
        go_wp2_with fail
        go_loopw [51] (fun i wr => ∃ k : Nat, k ≤ l.length ∧ i = .int .i64 k ∧ BlocksAt w.heap.size bx wr (numT S ++ pageT (l.take k)) ∧ wr.heap[D]? = some (.deferred (some [])) ∧ Below w.heap.size w wr) (fun i _ => l.length - (intOf i).toNat)
        case atStart => exact ⟨0, Nat.zero_le _, rfl, by rw [List.take_zero]; show BlocksAt _ _ _ (numT S ++ []); rw [List.append_nil]; exact HBA2.out, HK.out, HB2.out⟩
        case round =>
          clear HBA2 HB2 HK
          obtain ⟨k, hk, rfl, hBA, hK, hB⟩ := hrel
          by_cases hlt : k < l.length
          · obtain ⟨x, hx⟩ : ∃ x, l[k]? = some x := ⟨_, List.getElem?_eq_getElem hlt⟩
            rcases H0.out with ⟨rfl, _⟩ | ⟨b, o, cap', hvv, hbl, _, _, hr⟩
            · simp at hlt
            · cases hvv
              obtain ⟨hxw, hxr⟩ := hr k x hx
              have hxr2 := rangeAt_keep hxr (hB.block b hbl)
              have hx0 := err_zero (hok x (List.mem_of_getElem? hx))
              have e0 := hxr2 0 _ rfl
              have e1 := hxr2 1 _ rfl
              rw [Nat.add_zero] at e0
              have hx2 : l.take (k + 1) = l.take k ++ [x] := by rw [List.take_add_one, hx]; rfl
              have HT := Lib.hid hx2
              have HX0 := Lib.hid hx0
              have HBA := Lib.hid hBA
              have HK := Lib.hid hK
              have HB := Lib.hid hB
              have hq3 := heap_alloc_new wr (.cells #[.int .i64 x.at_, .string x.data] 49)
              have hbp : Below wr.heap.size wr (wr.alloc (.cells #[.int .i64 x.at_, .string x.data] 49)) := by go_grown
              clear hr hxr hxr2 hx hx0 hxw hx2 hBA hK hB
              go_wp2_with fail
              generalize hWP : wr.alloc (.cells #[.int .i64 x.at_, .string x.data] 49) = WP at *
              have hB2 := HB.out.on hbp
              have hK2 := (hbp.block D (heap_lt' HK.out)).trans HK.out
              have m1 : WP.cell? ⟨wr.heap.size, 1, none⟩ = some (.string x.data) := by rw [cell_of_row _ _ _ _ _ _ hq3]; rfl
              obtain ⟨v, hv, hrow⟩ := HBA.out.on hbp
              obtain ⟨va, vn, vc, rfl⟩ : ∃ a n c, v = .slice a n c := by
                rcases hrow.2 with ⟨h, _⟩ | ⟨g', cap', cur, h, _⟩
                · exact ⟨_, _, _, h⟩
                · exact ⟨_, _, _, h⟩
              have hvc := hv.cell
              obtain ⟨m, hm⟩ : ∃ m, (numT S ++ pageT (l.take k)).length = m := ⟨_, rfl⟩
              have hmle : (numT S ++ pageT (l.take k)).length ≤ 1048576 := by
                have := HS.out
                unfold numT pageT
                rw [List.length_append, List.length_map, List.length_map, List.length_range, List.length_take]
                unfold chunks
                omega
              have HV := Lib.hid hv
              have HROW := Lib.hid hrow
              have HB2 := Lib.hid hB2
              have HK2 := Lib.hid hK2
              have HM := Lib.hid hm
              have HML := Lib.hid hmle
              clear hv hrow hB2 hK2 hm hmle hq3 hbp hWP
              go_region_law (first
                | (go_simp; (with_reducible refine (fill_any x.data _ HX0.out.2.2).mono ?_); rintro e w1 ⟨rfl, hb1⟩; obtain ⟨gg, cp, w2, p1, p2, p3, p4, p5, p6, p7, p8⟩ := blocks_push HV.out HROW.out ((show Below WP.heap.size WP WP.drew by go_grown).on hb1) HB2.out.size HBX.out HML.out (filled x.data) m HM.out; have hne1 : w1.heap.size ≠ bx := (Nat.ne_of_lt (World.block_lt_of_cell? w1 _ p1)).symm; have p1a := ((show Below w1.heap.size w1 (w1.alloc (.cells #[.string (filled x.data)] 9)) by go_grown).cell (p := ⟨bx, 0, none⟩) (World.block_lt_of_cell? w1 _ p1)).trans p1; have P5 := Lib.hid p5; have P6 := Lib.hid p6; have P7 := Lib.hid p7; clear p5 p6 p7 p8 hb1)
                | fail)
              all_goals
                go_wp2
                go_roundw
                case rel => exact ⟨k + 1, by omega, by go_num, by rw [HT.out, pageT_snoc, ← List.append_assoc]; exact P5.out, P6.out.same D _ HK2.out rfl, HB2.out.trans P7.out⟩
                case measure => simp [intOf]; omega
          · obtain rfl : k = l.length := by omega
            rw [List.take_length] at hBA
            obtain ⟨v, hv, hrow⟩ := hBA
            have hvc := hv.cell
            have HPT : Hid (packT l = numT S ++ pageT l) := by unfold packT Hid; rw [HSS.out]
            have HK := Lib.hid hK
            have HB := Lib.hid hB
            have HROW := Lib.hid hrow
            clear hK hB hrow hv
            go_wp2_with fail
            refine ⟨by simp, .inl ⟨_, _, rfl, run_takeDeferred HK.out, ?_⟩⟩
            refine ⟨_, by simp [results, Try.results40, go_sem]; rfl, _, rfl, ?_, below_put HB.out HD.out HK.out rfl rfl⟩
            rw [HPT.out]
            exact ownsRow_putObj HROW.out _ HK.out rfl
      case stop =>
        rintro D c pre W _ _ h _
        exact h.elim
end Go.Proofs.Ytfcicpcpdklceaa
