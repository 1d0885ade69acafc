/- Without a crash every block is what was written last, filled up with bytes 0, whatever is written and flushed; and the chapter's example holds: for every list of acts. Conditions: none. -/
import Derived.Test.YtlmjecmlppkkiaaBlkH
import Derived.Test.YtlmjecmlppkkiaaActs
import Derived.Test.YtlmjecmlppkkiaaLaw
import Derived.BigQuiet
import Derived.Deep.QuietTactic
import Derived.Lib.QuietBelow
namespace Go.Proofs.Ytlmjecmlppkkiaa.blockLast
open Go.ChangeShapes Go.WideShapes Go.ChangeAt Go.RowKit Go.PlainAid
open Go.ChangeMaps (open_string)
open Go.Sort (grow)

theorem own : ownKnob Try.prog.godebug = none := by kernel_rfl
theorem laidOut : laidOutB Try.prog = true := by kernel_rfl
/-- Behind k acts: the disk tells what was written last, filled up. -/
structure LastInv (g : Nat → ByteArray) (k : Nat) (d : D) : Prop where
  six : d.n = 6
  free : d.free
  late : d.late.length ≤ k
  last : ∀ j, j < 6 → d.last j = filled (g j)
  size : ∀ j, j < 6 → (g j).size ≤ 256
theorem filled_none : filled ⟨#[]⟩ = zeroText := text_ext (by rw [filled_size, zeroText_size]) fun k hk => by
  rw [filled_size] at hk
  rw [filled_bt _ hk, zeroText_bt]
  exact bt_end _ (Nat.zero_le _)
theorem last_start : LastInv (fun _ => ⟨#[]⟩) 0 (newD 6) := ⟨rfl, newD_free 6, Nat.le_refl _, fun j _ => (by rw [filled_none]; rfl), fun j _ => Nat.zero_le _⟩
theorem last_good {g : Nat → ByteArray} {k : Nat} {d : D} (h : LastInv g k d) {j : Nat} (s : ByteArray) (hs : s.size ≤ 256) : LastInv (upd g j s) (k + 1) { d with late := d.late ++ [(((j : Nat) : Int).toNat, filled s)] } := by
  rw [Int.toNat_natCast]
  refine ⟨h.six, h.free, ?_, fun i hi => ?_, fun i hi => ?_⟩
  · show (d.late ++ [(j, filled s)]).length ≤ k + 1
    rw [List.length_append]
    exact Nat.succ_le_succ h.late
  · rw [last_snoc]
    by_cases e : i = j
    · rw [e, upd_same, upd_same]
    · rw [upd_other _ _ e, upd_other _ _ e]
      exact h.last i hi
  · by_cases e : i = j
    · rw [e, upd_same]; exact hs
    · rw [upd_other _ _ e]; exact h.size i hi
theorem last_bad {g : Nat → ByteArray} {k : Nat} {d : D} (h : LastInv g k d) : LastInv g (k + 1) d := ⟨h.six, h.free, Nat.le_succ_of_le h.late, h.last, h.size⟩
theorem last_flush {g : Nat → ByteArray} {k : Nat} {d : D} (h : LastInv g k d) : LastInv g k d.flushed := ⟨h.six, h.free, Nat.zero_le _, h.last, h.size⟩
set_option maxRecDepth 100000 in
set_option maxHeartbeats 6000000 in
theorem walk (w : World) (v0 : Value) (l0 : List ActV) (h0 : ActsIn w v0 l0) :
    Calls Try.prog 4 #[v0] w fun e w' => e = .returned (.bool true) ∧ Below w.heap.size w w' := by
  have hv : ∃ ao cap, v0 = .slice ao l0.length cap := by
    rcases h0 with ⟨rfl, ao, cap, rfl⟩ | ⟨b, o, cap, rfl, _⟩
    · exact ⟨_, _, rfl⟩
    · exact ⟨_, _, rfl⟩
  obtain ⟨ao, cap, rfl⟩ := hv
  have hlen : (l0.length : Int) ≤ 9223372036854775807 := by
    rcases h0 with ⟨rfl, _⟩ | ⟨_, _, _, _, _, _, hm, _⟩
    · decide
    · exact hm
  have H0 := Lib.hid h0
  clear h0
  go_enter Try.func4, Try.ntmps4
  go_wp2_with fail
  refine (some_any _).mono ?_
  rintro e w1 ⟨p, rfl, H1⟩
  have HA : OwnL w p (newD 6) [(w1.heap.size, .cells (six fun _ => ⟨#[]⟩) 46 (0, 0))] (w1.alloc (.cells (six fun _ => ⟨#[]⟩) 46)) := H1.owns.alloc _
  have hq0 : w.heap.size ≤ w1.heap.size := H1.below.size
  go_wp2_with fail
  change Code.wp _ _ _ _ (w1.alloc (.cells (six fun _ => ⟨#[]⟩) 46))
  generalize w1.alloc (.cells (six fun _ => ⟨#[]⟩) 46) = w2 at *
  have HQ := Lib.hid hq0
  clear H1 hq0
  generalize w1.heap.size = q at *
  go_loopw [5] (fun i wr => ∃ (k : Nat) (d : D) (g : Nat → ByteArray), k ≤ l0.length ∧ k ≤ 200 ∧ i = .int .i64 k ∧ OwnL w p d [(q, .cells (six g) 46 (0, 0))] wr ∧ LastInv g k d) (fun i _ => l0.length - (intOf i).toNat)
  case atStart => exact ⟨0, newD 6, _, Nat.zero_le _, by omega, rfl, HA, last_start⟩
  case round =>
    obtain ⟨k, d, g, hk, hk200, rfl, Hd, hinv⟩ := hrel
    have HI := Lib.hid hinv
    have hl2 : d.late.length < 4294967295 := by have := hinv.late; omega
    have hsix : ((d.n : Nat) : Int) = 6 := by rw [hinv.six]; rfl
    have HX := Lib.hid hsix
    have hfree := hinv.free
    have HF := Lib.hid hfree
    clear hinv hsix hfree
    by_cases hlt : k < l0.length ∧ k < 200
    · obtain ⟨hlt1, hlt2⟩ := hlt
      obtain ⟨x, hx⟩ : ∃ x, l0[k]? = some x := ⟨_, List.getElem?_eq_getElem hlt1⟩
      rcases H0.out with ⟨rfl, _⟩ | ⟨b, o, cap', hvv, hbl, _, _, hr⟩
      · simp at hlt1
      · cases hvv
        obtain ⟨hxw, hxr⟩ := hr k x hx
        obtain ⟨⟨bk0, ck0⟩, ⟨ba0, ca0⟩, sd0, ⟨bm0, cm0⟩, ⟨bt0, ct0⟩, ⟨bc0, cc0⟩⟩ := hxw
        have hxr2 := rangeAt_keep hxr (Hd.below.block b hbl)
        have e0 := hxr2 0 _ rfl
        have e1 := hxr2 1 _ rfl
        have e2 := hxr2 2 _ rfl
        have e3 := hxr2 3 _ rfl
        have e4 := hxr2 4 _ rfl
        have e5 := hxr2 5 _ rfl
        rw [Nat.add_zero] at e0
        clear hr hxr hxr2 hx
        obtain ⟨xk, xa, xd, xm, xt, xc⟩ := x
        simp only at *
        have hqlt : q < wr.heap.size := heap_lt (Hd.mem (List.mem_cons_self))
        have HA2 : OwnL w p d [(wr.heap.size, .cells #[.int .i64 xk, .int .i64 xa, .string xd, .int .u64 xm, .int .i64 xt, .int .i64 xc] 39 (0, 0)), (q, .cells (six g) 46 (0, 0))] (wr.alloc (.cells #[.int .i64 xk, .int .i64 xa, .string xd, .int .u64 xm, .int .i64 xt, .int .i64 xc] 39)) := Hd.alloc _
        by_cases hgood : (0 ≤ xa ∧ xa < 6) ∧ xd.size ≤ 256
        · obtain ⟨⟨c1, c2⟩, c3⟩ := hgood
          obtain ⟨j, rfl⟩ := Int.eq_ofNat_of_zero_le c1
          have hj : j < 6 := by omega
          have hb3 : decide ((xd.size : Int) ≤ 256) = true := by simp; omega
          go_wp2_with fail
          refine (qf_write HA2 HF.out (j : Int) xd (by omega) (by rw [HX.out]; omega) (by omega) (by omega)).mono ?_
          rintro e w3 ⟨rfl, H3⟩
          have hqa := H3.mem (List.mem_cons_self)
          have ha0 : w3.cell? ⟨wr.heap.size, 0, none⟩ = some (.int .i64 xk) := by rw [cell_of_row _ _ _ _ _ _ hqa]; rfl
          have ha1 : w3.cell? ⟨wr.heap.size, 1, none⟩ = some (.int .i64 (j : Int)) := by rw [cell_of_row _ _ _ _ _ _ hqa]; rfl
          have ha2 : w3.cell? ⟨wr.heap.size, 2, none⟩ = some (.string xd) := by rw [cell_of_row _ _ _ _ _ _ hqa]; rfl
          clear hqa
          have hq3 := H3.mem (List.mem_cons_of_mem _ (List.mem_cons_self))
          have hc3 : w3.cell? ⟨q, j, none⟩ = some (.string (g j)) := by rw [cell_of_row _ _ _ _ _ _ hq3]; exact six_get g hj
          have hf3 : w3.frozen? ⟨q, j, none⟩ = false := frozen_of_row _ _ _ _ _ hq3
          have H4 : OwnL w p { d with late := d.late ++ [(((j : Nat) : Int).toNat, filled xd)] } [(q, .cells (six (upd g j xd)) 46 (0, 0))] (w3.setCell ⟨q, j, none⟩ (.string xd)) :=
            H3.set (List.mem_cons_of_mem _ (List.mem_cons_self)) HQ.out _ (fun y hy => .inl (by rw [List.mem_singleton] at hy; rw [hy, six_set g xd hj]))
          have HI2 := Lib.hid (last_good (j := j) HI.out xd c3)
          clear hq3
          by_cases hk1 : xk = 1
          · have hkb : (xk == 1) = true := by simpa using hk1
            have HK := Lib.hid hk1
            clear hk1
            go_wp2_with fail
            refine (qf_flush H4 HF.out (Nat.lt_of_le_of_lt HI2.out.late (by omega))).mono ?_
            rintro e w5 ⟨rfl, H5⟩
            go_wp2
            go_roundw
            case rel => exact ⟨k + 1, _, _, by omega, by omega, by go_num, H5, last_flush HI2.out⟩
            case measure => simp [intOf]; omega
          · have hkb : (xk == 1) = false := by simpa using hk1
            have HK := Lib.hid hk1
            clear hk1
            go_wp2
            go_roundw
            case rel => exact ⟨k + 1, _, _, by omega, by omega, by go_num, H4, HI2.out⟩
            case measure => simp [intOf]; omega
        · have hbad := free_write_no (d := d) (k := xa) (s := xd) HF.out (by rw [HX.out]; omega)
          have HB := Lib.hid hbad.1
          rcases Int.lt_or_le xa 0 with c1 | c1
          · have hb1 : decide (0 ≤ xa) = false := by simpa using c1
            rcases hbad.2 with hE | hE
            · have HE := Lib.hid hE
              clear hE hbad
              go_wp2_with fail
              refine (q_write HA2 xa xd (by omega) (by omega) (by omega)).mono ?_
              rintro e w3 ⟨rfl, H3⟩
              rw [HB.out] at H3
              have hqa := H3.mem (List.mem_cons_self)
              have ha0 : w3.cell? ⟨wr.heap.size, 0, none⟩ = some (.int .i64 xk) := by rw [cell_of_row _ _ _ _ _ _ hqa]; rfl
              have ha1 : w3.cell? ⟨wr.heap.size, 1, none⟩ = some (.int .i64 xa) := by rw [cell_of_row _ _ _ _ _ _ hqa]; rfl
              have ha2 : w3.cell? ⟨wr.heap.size, 2, none⟩ = some (.string xd) := by rw [cell_of_row _ _ _ _ _ _ hqa]; rfl
              clear hqa
              rw [HE.out]
              by_cases hk1 : xk = 1
              · have hkb : (xk == 1) = true := by simpa using hk1
                have HK := Lib.hid hk1
                clear hk1
                go_wp2_with fail
                refine (qf_flush (H3.sub _ (fun y hy => List.mem_cons_of_mem _ hy)) HF.out (by omega)).mono ?_
                rintro e w5 ⟨rfl, H5⟩
                go_wp2
                go_roundw
                case rel => exact ⟨k + 1, _, _, by omega, by omega, by go_num, H5, last_flush (last_bad HI.out)⟩
                case measure => simp [intOf]; omega
              · have hkb : (xk == 1) = false := by simpa using hk1
                have HK := Lib.hid hk1
                clear hk1
                go_wp2
                go_roundw
                case rel => exact ⟨k + 1, _, _, by omega, by omega, by go_num, (H3.sub _ (fun y hy => List.mem_cons_of_mem _ hy)), (last_bad HI.out)⟩
                case measure => simp [intOf]; omega
            · have HE := Lib.hid hE
              clear hE hbad
              go_wp2_with fail
              refine (q_write HA2 xa xd (by omega) (by omega) (by omega)).mono ?_
              rintro e w3 ⟨rfl, H3⟩
              rw [HB.out] at H3
              have hqa := H3.mem (List.mem_cons_self)
              have ha0 : w3.cell? ⟨wr.heap.size, 0, none⟩ = some (.int .i64 xk) := by rw [cell_of_row _ _ _ _ _ _ hqa]; rfl
              have ha1 : w3.cell? ⟨wr.heap.size, 1, none⟩ = some (.int .i64 xa) := by rw [cell_of_row _ _ _ _ _ _ hqa]; rfl
              have ha2 : w3.cell? ⟨wr.heap.size, 2, none⟩ = some (.string xd) := by rw [cell_of_row _ _ _ _ _ _ hqa]; rfl
              clear hqa
              rw [HE.out]
              by_cases hk1 : xk = 1
              · have hkb : (xk == 1) = true := by simpa using hk1
                have HK := Lib.hid hk1
                clear hk1
                go_wp2_with fail
                refine (qf_flush (H3.sub _ (fun y hy => List.mem_cons_of_mem _ hy)) HF.out (by omega)).mono ?_
                rintro e w5 ⟨rfl, H5⟩
                go_wp2
                go_roundw
                case rel => exact ⟨k + 1, _, _, by omega, by omega, by go_num, H5, last_flush (last_bad HI.out)⟩
                case measure => simp [intOf]; omega
              · have hkb : (xk == 1) = false := by simpa using hk1
                have HK := Lib.hid hk1
                clear hk1
                go_wp2
                go_roundw
                case rel => exact ⟨k + 1, _, _, by omega, by omega, by go_num, (H3.sub _ (fun y hy => List.mem_cons_of_mem _ hy)), (last_bad HI.out)⟩
                case measure => simp [intOf]; omega
          · rcases Int.lt_or_le xa 6 with c2 | c2
            · have hb1 : decide (0 ≤ xa) = true := by simpa using c1
              have hb2 : decide (xa < 6) = true := by simpa using c2
              have c3 : 256 < xd.size := by omega
              have hb3 : decide ((xd.size : Int) ≤ 256) = false := by simp; omega
              rcases hbad.2 with hE | hE
              · have HE := Lib.hid hE
                clear hE hbad
                go_wp2_with fail
                refine (q_write HA2 xa xd (by omega) (by omega) (by omega)).mono ?_
                rintro e w3 ⟨rfl, H3⟩
                rw [HB.out] at H3
                have hqa := H3.mem (List.mem_cons_self)
                have ha0 : w3.cell? ⟨wr.heap.size, 0, none⟩ = some (.int .i64 xk) := by rw [cell_of_row _ _ _ _ _ _ hqa]; rfl
                have ha1 : w3.cell? ⟨wr.heap.size, 1, none⟩ = some (.int .i64 xa) := by rw [cell_of_row _ _ _ _ _ _ hqa]; rfl
                have ha2 : w3.cell? ⟨wr.heap.size, 2, none⟩ = some (.string xd) := by rw [cell_of_row _ _ _ _ _ _ hqa]; rfl
                clear hqa
                rw [HE.out]
                by_cases hk1 : xk = 1
                · have hkb : (xk == 1) = true := by simpa using hk1
                  have HK := Lib.hid hk1
                  clear hk1
                  go_wp2_with fail
                  refine (qf_flush (H3.sub _ (fun y hy => List.mem_cons_of_mem _ hy)) HF.out (by omega)).mono ?_
                  rintro e w5 ⟨rfl, H5⟩
                  go_wp2
                  go_roundw
                  case rel => exact ⟨k + 1, _, _, by omega, by omega, by go_num, H5, last_flush (last_bad HI.out)⟩
                  case measure => simp [intOf]; omega
                · have hkb : (xk == 1) = false := by simpa using hk1
                  have HK := Lib.hid hk1
                  clear hk1
                  go_wp2
                  go_roundw
                  case rel => exact ⟨k + 1, _, _, by omega, by omega, by go_num, (H3.sub _ (fun y hy => List.mem_cons_of_mem _ hy)), (last_bad HI.out)⟩
                  case measure => simp [intOf]; omega
              · have HE := Lib.hid hE
                clear hE hbad
                go_wp2_with fail
                refine (q_write HA2 xa xd (by omega) (by omega) (by omega)).mono ?_
                rintro e w3 ⟨rfl, H3⟩
                rw [HB.out] at H3
                have hqa := H3.mem (List.mem_cons_self)
                have ha0 : w3.cell? ⟨wr.heap.size, 0, none⟩ = some (.int .i64 xk) := by rw [cell_of_row _ _ _ _ _ _ hqa]; rfl
                have ha1 : w3.cell? ⟨wr.heap.size, 1, none⟩ = some (.int .i64 xa) := by rw [cell_of_row _ _ _ _ _ _ hqa]; rfl
                have ha2 : w3.cell? ⟨wr.heap.size, 2, none⟩ = some (.string xd) := by rw [cell_of_row _ _ _ _ _ _ hqa]; rfl
                clear hqa
                rw [HE.out]
                by_cases hk1 : xk = 1
                · have hkb : (xk == 1) = true := by simpa using hk1
                  have HK := Lib.hid hk1
                  clear hk1
                  go_wp2_with fail
                  refine (qf_flush (H3.sub _ (fun y hy => List.mem_cons_of_mem _ hy)) HF.out (by omega)).mono ?_
                  rintro e w5 ⟨rfl, H5⟩
                  go_wp2
                  go_roundw
                  case rel => exact ⟨k + 1, _, _, by omega, by omega, by go_num, H5, last_flush (last_bad HI.out)⟩
                  case measure => simp [intOf]; omega
                · have hkb : (xk == 1) = false := by simpa using hk1
                  have HK := Lib.hid hk1
                  clear hk1
                  go_wp2
                  go_roundw
                  case rel => exact ⟨k + 1, _, _, by omega, by omega, by go_num, (H3.sub _ (fun y hy => List.mem_cons_of_mem _ hy)), (last_bad HI.out)⟩
                  case measure => simp [intOf]; omega
            · have hb1 : decide (0 ≤ xa) = true := by simpa using c1
              have hb2 : decide (xa < 6) = false := by simpa using c2
              rcases hbad.2 with hE | hE
              · have HE := Lib.hid hE
                clear hE hbad
                go_wp2_with fail
                refine (q_write HA2 xa xd (by omega) (by omega) (by omega)).mono ?_
                rintro e w3 ⟨rfl, H3⟩
                rw [HB.out] at H3
                have hqa := H3.mem (List.mem_cons_self)
                have ha0 : w3.cell? ⟨wr.heap.size, 0, none⟩ = some (.int .i64 xk) := by rw [cell_of_row _ _ _ _ _ _ hqa]; rfl
                have ha1 : w3.cell? ⟨wr.heap.size, 1, none⟩ = some (.int .i64 xa) := by rw [cell_of_row _ _ _ _ _ _ hqa]; rfl
                have ha2 : w3.cell? ⟨wr.heap.size, 2, none⟩ = some (.string xd) := by rw [cell_of_row _ _ _ _ _ _ hqa]; rfl
                clear hqa
                rw [HE.out]
                by_cases hk1 : xk = 1
                · have hkb : (xk == 1) = true := by simpa using hk1
                  have HK := Lib.hid hk1
                  clear hk1
                  go_wp2_with fail
                  refine (qf_flush (H3.sub _ (fun y hy => List.mem_cons_of_mem _ hy)) HF.out (by omega)).mono ?_
                  rintro e w5 ⟨rfl, H5⟩
                  go_wp2
                  go_roundw
                  case rel => exact ⟨k + 1, _, _, by omega, by omega, by go_num, H5, last_flush (last_bad HI.out)⟩
                  case measure => simp [intOf]; omega
                · have hkb : (xk == 1) = false := by simpa using hk1
                  have HK := Lib.hid hk1
                  clear hk1
                  go_wp2
                  go_roundw
                  case rel => exact ⟨k + 1, _, _, by omega, by omega, by go_num, (H3.sub _ (fun y hy => List.mem_cons_of_mem _ hy)), (last_bad HI.out)⟩
                  case measure => simp [intOf]; omega
              · have HE := Lib.hid hE
                clear hE hbad
                go_wp2_with fail
                refine (q_write HA2 xa xd (by omega) (by omega) (by omega)).mono ?_
                rintro e w3 ⟨rfl, H3⟩
                rw [HB.out] at H3
                have hqa := H3.mem (List.mem_cons_self)
                have ha0 : w3.cell? ⟨wr.heap.size, 0, none⟩ = some (.int .i64 xk) := by rw [cell_of_row _ _ _ _ _ _ hqa]; rfl
                have ha1 : w3.cell? ⟨wr.heap.size, 1, none⟩ = some (.int .i64 xa) := by rw [cell_of_row _ _ _ _ _ _ hqa]; rfl
                have ha2 : w3.cell? ⟨wr.heap.size, 2, none⟩ = some (.string xd) := by rw [cell_of_row _ _ _ _ _ _ hqa]; rfl
                clear hqa
                rw [HE.out]
                by_cases hk1 : xk = 1
                · have hkb : (xk == 1) = true := by simpa using hk1
                  have HK := Lib.hid hk1
                  clear hk1
                  go_wp2_with fail
                  refine (qf_flush (H3.sub _ (fun y hy => List.mem_cons_of_mem _ hy)) HF.out (by omega)).mono ?_
                  rintro e w5 ⟨rfl, H5⟩
                  go_wp2
                  go_roundw
                  case rel => exact ⟨k + 1, _, _, by omega, by omega, by go_num, H5, last_flush (last_bad HI.out)⟩
                  case measure => simp [intOf]; omega
                · have hkb : (xk == 1) = false := by simpa using hk1
                  have HK := Lib.hid hk1
                  clear hk1
                  go_wp2
                  go_roundw
                  case rel => exact ⟨k + 1, _, _, by omega, by omega, by go_num, (H3.sub _ (fun y hy => List.mem_cons_of_mem _ hy)), (last_bad HI.out)⟩
                  case measure => simp [intOf]; omega
    · by_cases hlt1 : k < l0.length
      · have hlt2 : ¬ k < 200 := by omega
        have hb3 : decide ((k : Int) < 200) = false := by simp; omega
        go_wp2_with fail
        go_loopw [8] (fun i wr => ∃ (m : Nat), m ≤ 6 ∧ i = .int .i64 m ∧ OwnL w p d [(q, .cells (six g) 46 (0, 0))] wr) (fun i _ => 6 - (intOf i).toNat)
        case atStart => exact ⟨0, Nat.zero_le _, rfl, Hd⟩
        case round =>
          obtain ⟨m, hm, rfl, Hm⟩ := hrel
          by_cases hm6 : m < 6
          · have hq3 := Hm.mem (List.mem_cons_self)
            have hc3 : wr.cell? ⟨q, m, none⟩ = some (.string (g m)) := by rw [cell_of_row _ _ _ _ _ _ hq3]; exact six_get g hm6
            have hlast := HI.out.last m hm6
            have HL := Lib.hid hlast
            have hqq : ((filled (g m)).toList != (filled (g m)).toList) = false := by simp
            clear hlast hq3
            go_wp2_with fail
            refine (qf_read Hm HF.out (m : Int) (by omega) (by rw [HX.out]; omega)).mono ?_
            rintro e _ ⟨rfl, rfl⟩
            rw [Int.toNat_natCast, HL.out]
            go_wp2_with fail
            refine (filled_any (g m) _ (HI.out.size m hm6)).mono ?_
            rintro e w6 ⟨rfl, hb6⟩
            go_wp2
            go_roundw
            case rel => exact ⟨m + 1, by omega, by go_num, Hm.on hb6⟩
            case measure => simp [intOf]; omega
          · go_wp2_with fail
            refine (awake_any _).mono ?_
            rintro e w7 ⟨rfl, hb7⟩
            go_wp2
            go_returns
            exact ⟨rfl, Hm.below.on hb7⟩
      · go_wp2_with fail
        go_loopw [8] (fun i wr => ∃ (m : Nat), m ≤ 6 ∧ i = .int .i64 m ∧ OwnL w p d [(q, .cells (six g) 46 (0, 0))] wr) (fun i _ => 6 - (intOf i).toNat)
        case atStart => exact ⟨0, Nat.zero_le _, rfl, Hd⟩
        case round =>
          obtain ⟨m, hm, rfl, Hm⟩ := hrel
          by_cases hm6 : m < 6
          · have hq3 := Hm.mem (List.mem_cons_self)
            have hc3 : wr.cell? ⟨q, m, none⟩ = some (.string (g m)) := by rw [cell_of_row _ _ _ _ _ _ hq3]; exact six_get g hm6
            have hlast := HI.out.last m hm6
            have HL := Lib.hid hlast
            have hqq : ((filled (g m)).toList != (filled (g m)).toList) = false := by simp
            clear hlast hq3
            go_wp2_with fail
            refine (qf_read Hm HF.out (m : Int) (by omega) (by rw [HX.out]; omega)).mono ?_
            rintro e _ ⟨rfl, rfl⟩
            rw [Int.toNat_natCast, HL.out]
            go_wp2_with fail
            refine (filled_any (g m) _ (HI.out.size m hm6)).mono ?_
            rintro e w6 ⟨rfl, hb6⟩
            go_wp2
            go_roundw
            case rel => exact ⟨m + 1, by omega, by go_num, Hm.on hb6⟩
            case measure => simp [intOf]; omega
          · go_wp2_with fail
            refine (awake_any _).mono ?_
            rintro e w7 ⟨rfl, hb7⟩
            go_wp2
            go_returns
            exact ⟨rfl, Hm.below.on hb7⟩

set_option maxRecDepth 100000 in
theorem lifted (os : Os) (started : os.Started) (H : Type) (enc : TypeId × Value → H) :
    ReturnsInHanded {} Try.checked os 4 .any (Rows.blockLastSpec.pre6 enc Try.prog Try.f4 Rows.blockLastRow.domain false) (Rows.blockLastSpec.post enc Try.prog Try.f4 false true false false) := by
  refine law_lift (C := Try.checked) own started (by kernel_rfl) Try.func4 laidOut (by kernel_rfl) rfl Try.underlying4 rfl
    (fun ds h => match ds, h with | [_], _ => rfl)
    (ChangeSpec.witness6 (enc := enc) (C := Try.checked) false ⟨#[], #[.slice none 0 0], []⟩ 8 (by kernel_rfl) (by kernel_rfl) (by kernel_rfl) (by kernel_rfl)) ?_
  intro W base args ds ps hval hA hsz
  rw [Try.params4] at hA hval hsz
  obtain ⟨v0, vs0, d0, ds0, p0, q0, hargs, rfl, rfl, h0, r0⟩ := trodAll_cons hA
  obtain ⟨rfl, rfl, rfl⟩ := trodAll_nil r0
  obtain rfl : args = #[v0] := by cases args; simp_all
  obtain ⟨l0, hl0⟩ := acts_open (hval 0 22 v0 rfl rfl) h0
  exact walk W v0 l0 hl0

theorem over : Rows.blockLastRow.holds Try.pinned (OpenSpec.ofChange Rows.blockLastSpec) :=
  OpenClaim.holds_of_wide 4 Try.f4 rfl rfl rfl rfl rfl rfl rfl ⟨rfl, rfl, rfl, rfl, rfl⟩ rfl rfl rfl rfl rfl (by kernel_rfl) Try.func4 (by kernel_rfl)
    (of_decide_eq_true (by kernel_rfl)) (by unfold Func.isWrapper; first | (rw [if_pos (by decide +kernel)]; kernel_rfl) | (rw [if_neg (by decide +kernel)]; exact ⟨rfl, rfl⟩))
    (fun os started H enc _ => lifted os started H enc)

theorem proved : Rows.BlockLastSaid :=
  over
end Go.Proofs.Ytlmjecmlppkkiaa.blockLast
