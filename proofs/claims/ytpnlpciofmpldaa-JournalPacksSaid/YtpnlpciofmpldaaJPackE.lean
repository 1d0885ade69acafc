/- Contract of journal.Pack, where it does not pack. -/
import Derived.Test.YtpnlpciofmpldaaJPackB
import Derived.Deep.RegionLaw
namespace Go.Proofs.Ytpnlpciofmpldaa
open Go.ChangeShapes Go.WideShapes Go.ChangeAt Go.RowKit Go.PlainAid Go.Shelf

set_option maxRecDepth 100000 in
set_option maxHeartbeats 4000000 in
theorem pack_bad (w : World) (v : Value) (l : List PageV) (hl : PagesIn w v l) (hlen : l.length ≤ 1024) (j : Nat) (z : PageV) (hz : l[j]? = some z) (hze : z.err ≠ 0) (hfirst : ∀ i x, i < j → l[i]? = some x → x.err = 0) :
    Calls Try.prog 13 #[v] w fun e w' => e = .returned (.tuple #[.slice none 0 0, .int .i64 z.err]) ∧ Below w.heap.size w w' := by
  have hv : ∃ ao cap, v = .slice ao l.length cap := by
    rcases hl with ⟨rfl, ao, cap, rfl⟩ | ⟨b, o, cap, rfl, _⟩
    · exact ⟨_, _, rfl⟩
    · exact ⟨_, _, rfl⟩
  obtain ⟨ao, cap, rfl⟩ := hv
  have H0 := Lib.hid hl
  clear hl
  have hjl : j < l.length := (List.getElem?_eq_some_iff.1 hz).1
  have HZ := Lib.hid hz
  have HZE := Lib.hid hze
  clear hz hze
  have hbig : decide ((1024 : Int) < (l.length : Int)) = false := decide_eq_false (by omega)
  refine (callsIn_wide (n := 10)).1 ?_
  refine callsIn_of_wp_marks Try.func13 rfl trivial ?_ rfl
  simp only [Try.ntmps13, List.size_toArray, List.length_cons, List.length_nil, Nat.reduceAdd, Nat.reduceSub, Array.replicate_succ, Array.replicate_zero, List.push_toArray, List.append_toArray, List.nil_append, List.cons_append]
  refine wpIn_mono (Q := retPost _) (wpIn_wide.2 ?_) retPost_le
  go_wp2_with fail
  have hf0 := Lib.fresh_isBuilder 60 5 w
  have hb0 : Below w.heap.size w (w.alloc (.cells #[.pointer none, .slice none 0 0] 60)) := by go_grown
  generalize w.alloc (.cells #[.pointer none, .slice none 0 0] 60) = W0 at *
  refine (jfixed_any (l.length : Int) W0).mono ?_
  rintro e w1 ⟨rfl, hb1⟩
  have hf1 := bld_on hf0 hb1
  have hb2 := hb0.on hb1
  have H1 := Lib.hid hf1
  have H2 := Lib.hid hb2
  clear hf0 hb0 hb1 hf1 hb2
  go_wp2_with fail
  refine (bwrite_any w.heap.size w.heap.size [] (fixS (uZ (l.length : Int)) 4) w1 H1.out (by rw [fixS4_size]; decide) H2.out.size).mono ?_
  rintro e w2 ⟨rfl, hB2, hbb⟩
  have HA : Hid (HeadAt w w2 (l.length : Int) []) := ⟨H2.out.trans hbb, .inr (by rw [headT_nil]; exact hB2)⟩
  clear hB2 hbb H1 H2
  go_wp2_with fail
  go_loopw [21] (fun i wr => ∃ k : Nat, k ≤ j ∧ i = .int .i64 k ∧ HeadAt w wr (l.length : Int) (l.take k)) (fun i _ => l.length - (intOf i).toNat)
  case atStart => exact ⟨0, Nat.zero_le _, rfl, HA.out⟩
  case round =>
    clear HA
    obtain ⟨k, hk, rfl, hH⟩ := hrel
    have HH := Lib.hid hH
    clear hH
    by_cases hlt0 : k < j
    · have hlt : k < l.length := by omega
      obtain ⟨x, hx⟩ : ∃ x, l[k]? = some x := ⟨_, List.getElem?_eq_getElem hlt⟩
      rcases H0.out with ⟨rfl, _⟩ | ⟨b, o, cap', hvv, hbl, _, _, hr⟩
      · simp at hlt
      · cases hvv
        obtain ⟨hxw, hxr⟩ := hr k x hx
        have hxr2 := rangeAt_keep hxr (HH.out.1.block b hbl)
        have hx0 : x.err = 0 := hfirst k x hlt0 hx
        have HX0 := Lib.hid hx0
        have HXW := Lib.hid hxw
        have e0 := hxr2 0 _ rfl
        have e1 := hxr2 1 _ rfl
        rw [Nat.add_zero] at e0
        have hx2 : l.take (k + 1) = l.take k ++ [x] := by rw [List.take_add_one, hx]; rfl
        have HT := Lib.hid hx2
        clear hr hxr hxr2 hx hx0 hxw hx2
        go_wp2_with fail
        have hq0 := heap_alloc_new wr (.cells #[.int .i64 x.at_, .string x.data] 56)
        have hbp : Below wr.heap.size wr (wr.alloc (.cells #[.int .i64 x.at_, .string x.data] 56)) := by go_grown
        generalize wr.alloc (.cells #[.int .i64 x.at_, .string x.data] 56) = W3 at *
        refine (check_any x W3 HXW.out).mono ?_
        rintro e w3 ⟨rfl, hb3⟩
        rw [HX0.out]
        have hq3 := (hb3.block _ (heap_lt' hq0)).trans hq0
        have m0 : w3.cell? ⟨wr.heap.size, 0, none⟩ = some (.int .i64 x.at_) := by rw [cell_of_row _ _ _ _ _ _ hq3]; rfl
        have HH3 := Lib.hid (HH.out.on (hbp.on hb3))
        clear hq0 hbp hb3 hq3
        go_wp2_with fail
        refine (jfixed_any x.at_ w3).mono ?_
        rintro e w4 ⟨rfl, hb4⟩
        have HH4 := Lib.hid (HH3.out.on hb4)
        clear hb4 m0
        go_wp2_with fail
        refine (bwrite_any w.heap.size w.heap.size _ (fixS (uZ x.at_) 4) w4 HH4.out.2 (by rw [fixS4_size]; have := headT_size (l.length : Int) k l (by omega); rw [Lib.byteCells_length, ← Lib.size_eq, this]; omega) HH4.out.1.size).mono ?_
        rintro e w5 ⟨rfl, hB5, hbb⟩
        have H5 := Lib.hid (HH4.out.write hbb hB5)
        clear hB5 hbb
        go_wp2
        go_roundw
        case rel => exact ⟨k + 1, by omega, by go_num, by rw [HT.out]; exact H5.out⟩
        case measure => simp [intOf]; omega
    · obtain rfl : k = j := by omega
      rcases H0.out with ⟨rfl, _⟩ | ⟨b, o, cap', hvv, hbl, _, _, hr⟩
      · simp at hjl
      · cases hvv
        obtain ⟨hxw, hxr⟩ := hr k z HZ.out
        have hxr2 := rangeAt_keep hxr (HH.out.1.block b hbl)
        have HXW := Lib.hid hxw
        have e0 := hxr2 0 _ rfl
        have e1 := hxr2 1 _ rfl
        rw [Nat.add_zero] at e0
        clear hr hxr hxr2 hxw
        go_wp2_with fail
        have hbp : Below wr.heap.size wr (wr.alloc (.cells #[.int .i64 z.at_, .string z.data] 56)) := by go_grown
        generalize wr.alloc (.cells #[.int .i64 z.at_, .string z.data] 56) = W3 at *
        refine (check_any z W3 HXW.out).mono ?_
        rintro e w3 ⟨rfl, hb3⟩
        have HB3 := Lib.hid (HH.out.1.on (hbp.on hb3))
        have hzb : (z.err == 0) = false := beq_eq_false_iff_ne.2 HZE.out
        have hzn : (z.err != 0) = true := by rw [bne, hzb]; rfl
        have hze := HZE.out
        clear hbp hb3
        generalize hzz : z.err = ze at *
        go_wp2_with fail
        exact ⟨_, by simp [results, Try.results13, go_sem]; rfl, by rw [hzz], HB3.out⟩
set_option maxHeartbeats 1000000 in
theorem pack_big (w : World) (ao : Option Addr) (n cap : Nat) (hn : 1024 < n) :
    Calls Try.prog 13 #[.slice ao n cap] w fun e w' => e = .returned (.tuple #[.slice none 0 0, .int .i64 2]) ∧ Below w.heap.size w w' := by
  have hbig : decide ((1024 : Int) < (n : Int)) = true := decide_eq_true (by omega)
  refine (callsIn_wide (n := 10)).1 ?_
  refine callsIn_of_wp_marks Try.func13 rfl trivial ?_ rfl
  simp only [Try.ntmps13, List.size_toArray, List.length_cons, List.length_nil, Nat.reduceAdd, Nat.reduceSub, Array.replicate_succ, Array.replicate_zero, List.push_toArray, List.append_toArray, List.nil_append, List.cons_append]
  refine wpIn_mono (Q := retPost _) (wpIn_wide.2 ?_) retPost_le
  go_wp2_with fail
  exact ⟨_, by simp [results, Try.results13, go_sem], rfl, Below.refl _ _⟩
end Go.Proofs.Ytpnlpciofmpldaa
