/- Contracts of package block: Crash. -/
import Derived.Test.YtfcicpcpdklceaaBlkD
namespace Go.Proofs.Ytfcicpcpdklceaa
set_option maxRecDepth 100000
open Go.ChangeShapes Go.WideShapes Go.ChangeAt Go.RowKit Go.PlainAid
attribute [local go_sem ↓ high] loadS_write loadS_block storeS_write storeS_block buildS_write

/-- copy(safe[at][:n], w.data[:]). -/
theorem copy_part {w : World} {S o h n : Nat} {s : ByteArray} (hn : n ≤ 256) (cap : Nat) (ht : w.there S o 256) (hr : w.rangeAt h 1 (textCells 256 s)) :
    (Builtin.copy_ #[78, 78] 3 #[.slice (some ⟨S, o, none⟩) n cap, .slice (some ⟨h, 1, none⟩) 256 256]).run Try.prog w = .ok (goInt n) (w.setCells S o (textCells n s)) := by
  have hmin : Nat.min 256 n = n := Nat.min_eq_right hn
  have := run_copy_cells (P := Try.prog) w 78 78 3 5 S o n cap ⟨h, 1, none⟩ 256 256 (textCells n s) Try.underlying78 (by kernel_rfl) (by rw [length_textCells, hmin]) (fun j v hv => by
    have hj : j < n := by have := (List.getElem?_eq_some_iff.1 hv).1; simpa using this
    rw [Addr.add_mid]
    exact hr j v (by rw [textCells_get 256 s (by omega), ← textCells_get n s hj, hv])) (fun j hj => (ht j (by rw [length_textCells] at hj; omega)).1) (fun j hj => (ht j (by rw [length_textCells] at hj; omega)).2) (textCells_one _ _)
  rw [this, length_textCells]
theorem bit_low (m : Int) (k : Nat) (m0 : 0 ≤ m) (m1 : m ≤ 18446744073709551615) : bits .and .u64 (m / 2 ^ (k % 64)) 1 = m / 2 ^ (k % 64) % 2 := by
  have h2 : (0 : Int) < 2 ^ (k % 64) := Int.pow_pos (by decide)
  have h0 : 0 ≤ m / 2 ^ (k % 64) := Int.ediv_nonneg m0 (Int.le_of_lt h2)
  have h1 : m / 2 ^ (k % 64) ≤ m := Int.ediv_le_self _ m0
  exact u64_low _ h0 (Int.le_trans h1 m1)
theorem bit_no {m : Int} {k : Nat} (m0 : 0 ≤ m) (m1 : m ≤ 18446744073709551615) (b : bitB m k = false) : (bits .and .u64 (m / 2 ^ (k % 64)) 1 == 0) = true := by
  rw [bit_low m k m0 m1]
  unfold bitB at b
  have := Int.emod_two_eq (m / 2 ^ (k % 64))
  rcases this with e | e
  · rw [e]; rfl
  · rw [e] at b; cases b
theorem bit_yes {m : Int} {k : Nat} (m0 : 0 ≤ m) (m1 : m ≤ 18446744073709551615) (b : bitB m k = true) : (bits .and .u64 (m / 2 ^ (k % 64)) 1 == 0) = false := by
  rw [bit_low m k m0 m1]
  unfold bitB at b
  have := Int.emod_two_eq (m / 2 ^ (k % 64))
  rcases this with e | e
  · rw [e] at b; cases b
  · rw [e]; rfl
/-- What a round of the crash leaves in the safe blocks. -/
theorem crash_row {W : World} {S : Nat} {d : D} {m t c : Int} {k : Nat} {x : Nat × ByteArray} (hx : d.late[k]? = some x) (hx1 : x.1 < d.n) (b : bitB m k = true) (sz : Nat) (hsz : tornTo t c k = sz) (h : Rows 75 W S d.n (d.crashTo m t c k)) :
    Rows 75 (W.drew.setCells S (x.1 * 256) (textCells sz x.2)) S d.n (d.crashTo m t c (k + 1)) := by
  have hle : sz ≤ 256 := by rw [← hsz]; exact tornTo_le t c k
  rw [D.crashTo_kept hx b, hsz]
  refine Rows.setCells (w := W.drew) h hx1 x.2 sz hle _ (fun i _ e => upd_other _ _ e) (fun j hj => ?_) (fun j h1 h2 => ?_)
  · rw [upd_same, mixed_bt _ _ _ (by omega), if_pos hj]
  · rw [upd_same, mixed_bt _ _ _ h2, if_neg (by omega)]
theorem crash_moves {w wr : World} {F : Foot} {d : D} {m t c : Int} (h : Dk w F d) (hk : Keeps (fun j => j = F.S ∨ j = F.L) w wr) (hS : Rows 75 wr F.S d.n (d.crashTo m t c d.late.length)) (hL : Rows 75 wr F.L d.n (d.crashTo m t c d.late.length)) :
    Moves F (d.crash m t c) w (((wr.setCell ⟨F.p, 2, none⟩ (.slice none 0 0)).setCell ⟨F.p, 3, none⟩ (.int .i64 (-1))).setCell ⟨F.p, 4, none⟩ (.bool false)) := by
  refine ⟨_, DiskAt.crashed h m t c hk hS hL, rfl, fun k hk => .inl ?_, ?_⟩
  · rcases hk with hk | hk | hk | hk
    · exact .inl hk
    · exact .inr (.inl hk)
    · exact .inr (.inr (.inl hk))
    · cases hk
  · exact (((hk.mono fun i hi => .inl (.inr (hi.elim .inl fun e => .inr (.inl e)))).setCell (.inl (.inl rfl)) _).setCell (.inl (.inl rfl)) _).setCell (.inl (.inl rfl)) _
set_option maxHeartbeats 400000 in
theorem crash_any (w : World) (F : Foot) (d : D) (m t c : Int) (h : Dk w F d) (hl : d.late.length < 4294967296) (m0 : 0 ≤ m) (m1 : m ≤ 18446744073709551615)
    (_t0 : -9223372036854775808 ≤ t) (_t1 : t ≤ 9223372036854775807) (k0 : -9223372036854775808 ≤ c) (k1 : c ≤ 9223372036854775807) :
    Calls Try.prog 14 #[.pointer (some ⟨F.p, 0, none⟩), .int .u64 m, .int .i64 t, .int .i64 c] w fun e w' => e = .returned (.tuple #[]) ∧ Moves F (d.crash m t c) w w' := by
  obtain ⟨c0, c1, c2, c3, c4⟩ := DiskAt.cells h
  have hzero := zero_write
  have hnew := storeS_new
  go_enter Try.func14, Try.ntmps14
  go_wp2_with fail
  refine (made_any _ F d h).mono ?_
  rintro e _ ⟨rfl, rfl⟩
  rcases h.lates with ⟨hv, hnil⟩ | ⟨g, cap, hv, hB, hgl, hown, hrows⟩
  · rw [hv] at c2
    have HN := Lib.hid hnil
    have f2 := DiskAt.thaw h 2
    have f3 := DiskAt.thaw h 3
    have f4 := DiskAt.thaw h 4
    clear hv hnil
    go_wp2
    go_rounds 1
    go_rounds 1
    go_returns
    refine ⟨rfl, crash_moves h (Keeps.refl _ _) ?_ ?_⟩
    · rw [HN.out]
      exact h.safe
    · refine h.last.congr fun k _ => ?_
      unfold D.last
      rw [HN.out]
      rfl
  · rw [hv] at c2
    have HV := Lib.hid hv
    have HO := Lib.hid hown
    have HR := Lib.hid hrows
    have hSB := h.SB
    have hLB := h.LB
    clear hv hown hrows
    go_wp2
    go_loopw [21] (fun i wr => ∃ k : Nat, k ≤ d.late.length ∧ i = .int .i64 k ∧ Keeps (fun j => j = F.S ∨ j = F.L) w wr ∧ Rows 75 wr F.S d.n (d.crashTo m t c k) ∧ Rows 75 wr F.L d.n d.last) (fun i _ => d.late.length - (intOf i).toNat)
    case atStart => exact ⟨0, Nat.zero_le _, rfl, Keeps.refl _ _, h.safe, h.last⟩
    case round =>
      obtain ⟨k, hk, rfl, hkr, hsr, hLr⟩ := hrel
      by_cases hlt : k < d.late.length
      · obtain ⟨x, hx⟩ : ∃ x, d.late[k]? = some x := ⟨_, List.getElem?_eq_getElem hlt⟩
        have hxw := h.wf.late x (List.mem_of_getElem? hx)
        have hx1 : x.1 < d.n := hxw.1
        have hld := loadS_range (rangeAt_keep (HR.out k x hx) (hkr.block g hgl (by omega)))
        have H3 := Lib.hid hx
        have HSr := Lib.hid hsr
        have HLr := Lib.hid hLr
        have hW0 : (wr.alloc (.cells (writeCells x.1 x.2) 77)).heap[wr.heap.size]? = some (.cells (writeCells x.1 x.2) 77 (0, 0)) := heap_alloc_new _ _
        have hkW : Keeps (fun j => j = F.S ∨ j = F.L) w (wr.alloc (.cells (writeCells x.1 x.2) 77)) := hkr.alloc _
        have hsW : Rows 75 (wr.alloc (.cells (writeCells x.1 x.2) 77)) F.S d.n (d.crashTo m t c k) := hsr.keep (Below.heap_alloc _ _ _ hsr.lt)
        have hlW : Rows 75 (wr.alloc (.cells (writeCells x.1 x.2) 77)) F.L d.n d.last := hLr.keep (Below.heap_alloc _ _ _ hLr.lt)
        have hcW : (wr.alloc (.cells (writeCells x.1 x.2) 77)).cell? ⟨F.p, 0, none⟩ = some (.slice (some ⟨F.S, 0, none⟩) d.n d.n) :=
          (World.cell?_of_block (a := ⟨F.p, 0, none⟩) (hkW.block F.p (DiskAt.own_lt h (.inl rfl)) (fun c => by rcases c with c | c; exact h.pS c; exact h.pL c))).trans c0
        have H1 := Lib.hid hW0
        have H2 := Lib.hid hsW
        have H4 := Lib.hid hlW
        clear hx hsr hLr hW0 hsW hlW
        by_cases b : bitB m k = true
        · have hb := bit_yes m0 m1 b
          have HB := Lib.hid b
          clear b
          by_cases e : (k : Int) = t
          · have he : ((k : Int) == t) = true := by simpa using e
            have HE := Lib.hid e
            clear e
            rcases Int.lt_or_le c 0 with a | a
            · have hcz : c < 0 := a
              go_wp2_with fail
              generalize wr.alloc (.cells (writeCells x.1 x.2) 77) = W at *
              have hat : W.cell? ⟨wr.heap.size, 0, none⟩ = some (.int .i64 x.1) := by rw [cell_of_row _ _ _ _ _ _ H1.out]; rfl
              have hcp := copy_part (w := W.drew) (n := 0) (by omega) 256 (H2.out.there hx1) (range_data H1.out)
              have hll : d.late.length ≤ 4294967296 := Nat.le_of_lt hl
              clear hld
              go_still_tail 11, (by kernel_rfl)
              go_wp2
              go_roundw
              case rel => exact ⟨k + 1, by omega, by go_num, hkW.drew.setCells (.inl (.inl rfl)) _ _, crash_row H3.out hx1 HB.out 0 (by unfold tornTo; rw [if_pos HE.out]; omega) H2.out, H4.out.keep (heap_setCells_other _ _ h.SL.symm _ _ _)⟩
              case measure => simp [intOf]; omega
            · obtain ⟨n, rfl⟩ := Int.eq_ofNat_of_zero_le a
              rcases Nat.lt_or_ge 256 n with a2 | a2
              · have hcz : (256 : Int) < (n : Int) := by omega
                go_wp2_with fail
                generalize wr.alloc (.cells (writeCells x.1 x.2) 77) = W at *
                have hat : W.cell? ⟨wr.heap.size, 0, none⟩ = some (.int .i64 x.1) := by rw [cell_of_row _ _ _ _ _ _ H1.out]; rfl
                have hcp := copy_part (w := W.drew) (n := 256) (by omega) 256 (H2.out.there hx1) (range_data H1.out)
                have hll : d.late.length ≤ 4294967296 := Nat.le_of_lt hl
                clear hld
                go_still_tail 11, (by kernel_rfl)
                go_wp2
                go_roundw
                case rel => exact ⟨k + 1, by omega, by go_num, hkW.drew.setCells (.inl (.inl rfl)) _ _, crash_row H3.out hx1 HB.out 256 (by unfold tornTo; rw [if_pos HE.out]; omega) H2.out, H4.out.keep (heap_setCells_other _ _ h.SL.symm _ _ _)⟩
                case measure => simp [intOf]; omega
              · have hcz : (n : Int) ≤ 256 := by omega
                go_wp2_with fail
                generalize wr.alloc (.cells (writeCells x.1 x.2) 77) = W at *
                have hat : W.cell? ⟨wr.heap.size, 0, none⟩ = some (.int .i64 x.1) := by rw [cell_of_row _ _ _ _ _ _ H1.out]; rfl
                have hcp := copy_part (w := W.drew) (n := n) (by omega) 256 (H2.out.there hx1) (range_data H1.out)
                have hll : d.late.length ≤ 4294967296 := Nat.le_of_lt hl
                clear hld
                go_still_tail 11, (by kernel_rfl)
                go_wp2
                go_roundw
                case rel => exact ⟨k + 1, by omega, by go_num, hkW.drew.setCells (.inl (.inl rfl)) _ _, crash_row H3.out hx1 HB.out n (by unfold tornTo; rw [if_pos HE.out]; omega) H2.out, H4.out.keep (heap_setCells_other _ _ h.SL.symm _ _ _)⟩
                case measure => simp [intOf]; omega
          · have he : ((k : Int) == t) = false := by simpa using e
            have HE := Lib.hid e
            clear e
            go_wp2_with fail
            generalize wr.alloc (.cells (writeCells x.1 x.2) 77) = W at *
            have hat : W.cell? ⟨wr.heap.size, 0, none⟩ = some (.int .i64 x.1) := by rw [cell_of_row _ _ _ _ _ _ H1.out]; rfl
            have hcp := copy_part (w := W.drew) (n := 256) (by omega) 256 (H2.out.there hx1) (range_data H1.out)
            have hll : d.late.length ≤ 4294967296 := Nat.le_of_lt hl
            clear hld
            go_still_tail 11, (by kernel_rfl)
            go_wp2
            go_roundw
            case rel => exact ⟨k + 1, by omega, by go_num, hkW.drew.setCells (.inl (.inl rfl)) _ _, crash_row H3.out hx1 HB.out 256 (by unfold tornTo; rw [if_neg HE.out]) H2.out, H4.out.keep (heap_setCells_other _ _ h.SL.symm _ _ _)⟩
            case measure => simp [intOf]; omega
        · have hb := bit_no m0 m1 (by simpa using b)
          have HB := Lib.hid b
          clear b
          go_wp2
          go_roundw
          case rel =>
            refine ⟨k + 1, by omega, by go_num, hkW, ?_, H4.out⟩
            rw [D.crashTo_lost H3.out (by simpa using HB.out)]
            exact H2.out
          case measure => simp [intOf]; omega
      · have hk2 : k = d.late.length := by omega
        subst hk2
        have hne : ¬ (F.p = F.S ∨ F.p = F.L) := fun c => by rcases c with c | c; exact h.pS c; exact h.pL c
        have hkp := hkr.block F.p (DiskAt.own_lt h (.inl rfl)) hne
        have e2 := (World.cell?_of_block (a := ⟨F.p, 2, none⟩) hkp).trans c2
        have HSr := Lib.hid hsr
        have HLr := Lib.hid hLr
        clear hsr hLr hkp hne
        generalize wr = w2 at *
        go_wp2
        go_loopw [56] (fun i ws => ∃ k : Nat, k ≤ d.late.length ∧ i = .int .i64 k ∧ Keeps (fun j => j = F.L) w2 ws ∧ Rows 75 ws F.L d.n (relast d.last (d.crashTo m t c d.late.length) (d.late.take k))) (fun i _ => d.late.length - (intOf i).toNat)
        case atStart => exact ⟨0, Nat.zero_le _, rfl, Keeps.refl _ _, HLr.out⟩
        case round =>
          obtain ⟨k, hk2, rfl, hks, hLs⟩ := hrel
          have hne : ¬ (F.p = F.S ∨ F.p = F.L) := fun c => by rcases c with c | c; exact h.pS c; exact h.pL c
          have hkp : wr.heap[F.p]? = w.heap[F.p]? := (hks.block F.p (Nat.lt_of_lt_of_le (DiskAt.own_lt h (.inl rfl)) hkr.size) h.pL).trans (hkr.block F.p (DiskAt.own_lt h (.inl rfl)) hne)
          by_cases hlt : k < d.late.length
          · obtain ⟨x, hx⟩ : ∃ x, d.late[k]? = some x := ⟨_, List.getElem?_eq_getElem hlt⟩
            have hxw := h.wf.late x (List.mem_of_getElem? hx)
            have hx1 : x.1 < d.n := hxw.1
            have hld := loadS_range (rangeAt_keep (HR.out k x hx) ((hks.block g (Nat.lt_of_lt_of_le hgl hkr.size) (by omega)).trans (hkr.block g hgl (by omega))))
            have H3 := Lib.hid hx
            have hSr : Rows 75 wr F.S d.n (d.crashTo m t c d.late.length) := HSr.out.keep (hks.block F.S HSr.out.lt h.SL)
            have hW0 : (wr.alloc (.cells (writeCells x.1 x.2) 77)).heap[wr.heap.size]? = some (.cells (writeCells x.1 x.2) 77 (0, 0)) := heap_alloc_new _ _
            have hkW : Keeps (fun j => j = F.L) w2 (wr.alloc (.cells (writeCells x.1 x.2) 77)) := hks.alloc _
            have hsW : Rows 75 (wr.alloc (.cells (writeCells x.1 x.2) 77)) F.S d.n (d.crashTo m t c d.late.length) := hSr.keep (Below.heap_alloc _ _ _ hSr.lt)
            have hlW : Rows 75 (wr.alloc (.cells (writeCells x.1 x.2) 77)) F.L d.n (relast d.last (d.crashTo m t c d.late.length) (d.late.take k)) := hLs.keep (Below.heap_alloc _ _ _ hLs.lt)
            have hcp : (wr.alloc (.cells (writeCells x.1 x.2) 77)).heap[F.p]? = w.heap[F.p]? := (Below.heap_alloc _ _ _ (Nat.lt_of_lt_of_le (Nat.lt_of_lt_of_le (DiskAt.own_lt h (.inl rfl)) hkr.size) hks.size)).trans hkp
            have hc0 := (World.cell?_of_block (a := ⟨F.p, 0, none⟩) hcp).trans c0
            have hc1 := (World.cell?_of_block (a := ⟨F.p, 1, none⟩) hcp).trans c1
            have H1 := Lib.hid hW0
            have H2 := Lib.hid hsW
            have H4 := Lib.hid hlW
            clear hx hW0 hsW hlW hSr hLs hcp hkp hne
            go_wp2_with fail
            generalize wr.alloc (.cells (writeCells x.1 x.2) 77) = W at *
            have hat : W.cell? ⟨wr.heap.size, 0, none⟩ = some (.int .i64 x.1) := by rw [cell_of_row _ _ _ _ _ _ H1.out]; rfl
            have hdt := loadS_text (w := W.drew) (H2.out.range hx1)
            have hst := storeS_text (w := W.drew) (s := d.crashTo m t c d.late.length x.1) (H4.out.there hx1)
            have hll : d.late.length ≤ 4294967296 := Nat.le_of_lt hl
            clear hld
            go_still_tail 15, (by kernel_rfl)
            go_wp2
            go_roundw
            case rel =>
              refine ⟨k + 1, by omega, by go_num, hkW.drew.setCells (.inl rfl) _ _, ?_⟩
              rw [relast_take _ _ _ k x H3.out]
              exact Rows.set (w := W.drew) H4.out hx1 _
            case measure => simp [intOf]; omega
          · have hk3 : k = d.late.length := by omega
            subst hk3
            have hf2 : wr.frozen? ⟨F.p, 2, none⟩ = false := (World.frozen?_of_block (a := ⟨F.p, 2, none⟩) hkp).trans (DiskAt.thaw h 2)
            have hf3 : wr.frozen? ⟨F.p, 3, none⟩ = false := (World.frozen?_of_block (a := ⟨F.p, 3, none⟩) hkp).trans (DiskAt.thaw h 3)
            have hf4 : wr.frozen? ⟨F.p, 4, none⟩ = false := (World.frozen?_of_block (a := ⟨F.p, 4, none⟩) hkp).trans (DiskAt.thaw h 4)
            have hc2 := (World.cell?_of_block (a := ⟨F.p, 2, none⟩) hkp).trans c2
            have hc3 := (World.cell?_of_block (a := ⟨F.p, 3, none⟩) hkp).trans c3
            have hc4 := (World.cell?_of_block (a := ⟨F.p, 4, none⟩) hkp).trans c4
            have HL2 := Lib.hid hLs
            clear hLs hkp hne
            go_wp2
            go_returns
            refine ⟨rfl, crash_moves h ?_ (HSr.out.keep (hks.block F.S HSr.out.lt h.SL)) ?_⟩
            · exact hkr.on (hks.mono fun i hi => .inl (.inr hi))
            · refine HL2.out.congr fun j _ => ?_
              rw [List.take_length]
              exact (D.relast_crash d m t c j).symm
end Go.Proofs.Ytfcicpcpdklceaa
