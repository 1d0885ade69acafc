/- Contracts of the reference's disk: kept, Crash. -/
import Derived.Test.YtcefljfocagcoaaRefA
import Derived.Test.YtcefljfocagcoaaBlkE
import Derived.Test.YtcefljfocagcoaaBlkH
namespace Go.Proofs.Ytcefljfocagcoaa
open Go.ChangeShapes Go.WideShapes Go.ChangeAt Go.RowKit Go.PlainAid

/-- Block g holds at least n texts. -/
def TextsAt (w : World) (g n : Nat) (t : TypeId) (f : Nat → ByteArray) : Prop := ∃ cur : Array Value, w.heap[g]? = some (.cells cur t (0, 0)) ∧ ∀ k, k < n → cur[k]? = some (.string (f k))
theorem TextsAt.cell {w : World} {g n : Nat} {t : TypeId} {f : Nat → ByteArray} (h : TextsAt w g n t f) {k : Nat} (hk : k < n) : w.cell? ⟨g, k, none⟩ = some (.string (f k)) := by
  obtain ⟨cur, h1, h2⟩ := h
  rw [cell_of_row _ _ _ _ _ _ h1]
  exact h2 k hk
theorem TextsAt.thaw {w : World} {g n : Nat} {t : TypeId} {f : Nat → ByteArray} (h : TextsAt w g n t f) (k : Nat) : w.frozen? ⟨g, k, none⟩ = false := by
  obtain ⟨cur, h1, h2⟩ := h
  exact frozen_of_row _ _ _ _ _ h1
theorem TextsAt.lt {w : World} {g n : Nat} {t : TypeId} {f : Nat → ByteArray} (h : TextsAt w g n t f) : g < w.heap.size := by
  obtain ⟨cur, h1, _⟩ := h
  rcases Nat.lt_or_ge g w.heap.size with c | c
  · exact c
  · rw [Array.getElem?_eq_none c] at h1; cases h1
theorem TextsAt.keep {w w' : World} {g n : Nat} {t : TypeId} {f : Nat → ByteArray} (h : TextsAt w g n t f) (e : w'.heap[g]? = w.heap[g]?) : TextsAt w' g n t f := by
  obtain ⟨cur, h1, h2⟩ := h
  exact ⟨cur, e.trans h1, h2⟩
theorem TextsAt.set {w : World} {g n : Nat} {t : TypeId} {f : Nat → ByteArray} (h : TextsAt w g n t f) {k : Nat} (hk : k < n) (s : ByteArray) : TextsAt (w.setCell ⟨g, k, none⟩ (.string s)) g n t (upd f k s) := by
  obtain ⟨cur, h1, h2⟩ := h
  refine ⟨_, heap_setCell_same w g k cur t _ h1, fun i hi => ?_⟩
  by_cases e : i = k
  · subst e
    have hlt : i < cur.size := (Array.getElem?_eq_some_iff.1 (h2 i hi)).1
    rw [upd_same, Array.getElem?_setIfInBounds_self_of_lt hlt]
  · rw [upd_other _ _ e, Array.getElem?_setIfInBounds_ne (fun c => e c.symm)]
    exact h2 i hi
theorem TextsAt.safe {w : World} {g n : Nat} {t : TypeId} {f : Nat → ByteArray} (h : TextsAt w g n t f) (cap : Nat) : SafeIn w (.slice (some ⟨g, 0, none⟩) n cap) n f := ⟨g, cap, rfl, h.lt, fun _ hk => h.cell hk⟩
def textList (n : Nat) (f : Nat → ByteArray) : List Value := (List.range n).map fun k => .string (f k)
theorem textList_length (n : Nat) (f : Nat → ByteArray) : (textList n f).length = n := by simp [textList]
theorem textList_get (n : Nat) (f : Nat → ByteArray) {k : Nat} (h : k < n) : (textList n f)[k]? = some (.string (f k)) := by simp [textList, h]
theorem textList_one (n : Nat) (f : Nat → ByteArray) : ∀ v ∈ textList n f, v.oneCell' = true := by
  intro v hv
  simp only [textList, List.mem_map] at hv
  obtain ⟨_, _, rfl⟩ := hv
  rfl
theorem texts_owned {w : World} {base g n cap : Nat} {t : TypeId} {f : Nat → ByteArray} (h : w.ownsRow base t 1 (.slice (some ⟨g, 0, none⟩) n cap) n (textList n f)) : TextsAt w g n t f := by
  obtain ⟨h1, h2⟩ := h
  rcases h2 with ⟨h2, _⟩ | ⟨g', cap', cur, hv, hb, hg, hn2, hc, hsz, ht⟩
  · cases h2
  · cases hv
    refine ⟨cur, hg, fun k hk => ?_⟩
    have := textList_get n f hk
    rw [← ht, Nat.mul_one, List.getElem?_take_of_lt hk, Array.getElem?_toList] at this
    exact this
/-- Two texts, one behind the other, at a step that only reads. -/
theorem still_concat {ops : Array Oper} {w : World} {Q : Act → Prop} {a : Act} {o : Oper} {rest : List Oper} (hg : o.guard = none) (x y : Operand) (ho : o.op = .binOp .add 9 x y 9)
    (p q : ByteArray) (hx : a.eval x = .string p) (hy : a.eval y = .string q) (hl : p.size + q.size ≤ 4294967296) (h : wpStill Try.prog ops w Q rest (a.put o.dst (.string (p ++ q)))) : wpStill Try.prog ops w Q (o :: rest) a := by
  have hw : Region.wanted o (yielded ops a.tmps) = true := by simp [Region.wanted, hg]
  have hr := run_string_add_sum (P := Try.prog) w p q (by omega)
  refine wpStill_step (fun K hK => ?_)
  rw [if_pos hw]
  unfold Oper.still
  have he : (execOp a.eval o).run Try.prog w = .ok (.value (.string (p ++ q))) w := by
    unfold execOp
    simp only [ho, hx, hy]
    simp [go_sem]
    omega
  rw [he, Oper.stillUpon_value]
  exact hK _ h
theorem info_string : (Try.prog.info? 9).map (fun i => (i.zero, i.size, i.bytes)) = some (some (.string ⟨#[]⟩), 1, 16) := by kernel_rfl
theorem cut_cat (a b : ByteArray) (n : Nat) (hn : n ≤ 256) (ha : a.size = 256) (hb : b.size = 256) : a.extract 0 n ++ b.extract n 256 = mixed a b n := by
  have e1 : (a.extract 0 n).size = n := by rw [ByteArray.size_extract, ha]; omega
  have e2 : (b.extract n 256).size = 256 - n := by rw [ByteArray.size_extract, hb]; omega
  refine text_ext (by rw [ByteArray.size_append, e1, e2, mixed_size]; omega) fun k hk => ?_
  rw [ByteArray.size_append, e1, e2] at hk
  rw [mixed_bt _ _ _ (by omega), bt_append, e1]
  by_cases c : k < n
  · rw [if_pos c, if_pos c, bt_list, bt_list]
    simp only [ByteArray.data_extract, Array.toList_extract, List.extract_eq_take_drop, List.drop_zero, List.getD_eq_getElem?_getD]
    rw [List.getElem?_take_of_lt (by omega)]
  · rw [if_neg c, if_neg c, bt_list, bt_list]
    simp only [ByteArray.data_extract, Array.toList_extract, List.extract_eq_take_drop, List.getD_eq_getElem?_getD]
    rw [List.getElem?_take_of_lt (by omega), List.getElem?_drop, show n + (k - n) = k by omega]
theorem empty_cat (a b : ByteArray) : ByteArray.empty ++ b = a.extract 0 0 ++ b.extract 0 b.size := by
  apply ByteArray.ext
  simp
/-- What a round of kept leaves. -/
theorem kept_row {wr : World} {g : Nat} {ty : TypeId} {d : D} {m t c : Int} {k : Nat} {x : Nat × ByteArray} {F : ByteArray} (hx : d.late[k]? = some x) (hx1 : x.1 < d.n) (b : bitB m k = true) (hF : d.crashTo m t c k x.1 = F) (h1 : x.2.size = 256) (h2 : F.size = 256)
    (n : Nat) (ht : tornTo t c k = n) (hn : n ≤ 256) (V : ByteArray) (h : TextsAt wr g d.n ty (d.crashTo m t c k)) (hv : V = x.2.extract 0 n ++ F.extract n F.size) : TextsAt (wr.drew.setCell ⟨g, x.1, none⟩ (.string V)) g d.n ty (d.crashTo m t c (k + 1)) := by
  rw [D.crashTo_kept hx b, hF, ht, ← cut_cat x.2 F n hn h1 h2, hv, h2]
  exact TextsAt.set (w := wr.drew) h hx1 _
def KeptPost (d : D) (m t c : Int) (w : World) (e : Ending) (w' : World) : Prop := ∃ g cap, e = .returned (.slice (some ⟨g, 0, none⟩) d.n cap) ∧ SafeIn w' (.slice (some ⟨g, 0, none⟩) d.n cap) d.n (d.crashTo m t c d.late.length) ∧ Below w.heap.size w w' ∧ w.heap.size ≤ g
set_option maxRecDepth 100000 in
set_option maxHeartbeats 1200000 in
theorem rkept_any (w : World) (sv lv : Value) (lim : Int) (d : D) (m t c : Int) (hs : SafeIn w sv d.n d.safe) (hl : LateIn w lv d.late) (hw : d.Wf) (hlen : d.late.length < 4294967296)
    (m0 : 0 ≤ m) (m1 : m ≤ 18446744073709551615) (t0 : -9223372036854775808 ≤ t) (t1 : t ≤ 9223372036854775807) (k0 : -9223372036854775808 ≤ c) (k1 : c ≤ 9223372036854775807) (g0 : Bool) :
    Calls Try.prog 25 #[.agg #[sv, lv, .int .i64 lim, .bool g0], .int .u64 m, .int .i64 t, .int .i64 c] w (KeptPost d m t c w) := by
  obtain ⟨sb, scap, rfl, hsb, hsc⟩ := hs
  have HSC := Lib.hid hsc
  have hn0 := hw.lo
  have hn1 := hw.hi
  have HW := Lib.hid hw
  clear hsc hw
  obtain ⟨i0, hi, hz0, hz1, hz2⟩ := info_parts info_string
  have HI := Lib.hid (And.intro hi (And.intro hz0 (And.intro hz1 hz2)))
  clear hi hz0 hz1 hz2
  have hlv : ∃ la lcap, lv = .slice la d.late.length lcap ∧ Hid (∀ i x, d.late[i]? = some x → ∃ lb, la = some ⟨lb, 0, none⟩ ∧ lb < w.heap.size ∧ w.cell? ⟨lb, i * 2, none⟩ = some (.int .i64 (x.1 : Int)) ∧ w.cell? ⟨lb, i * 2 + 1, none⟩ = some (.string x.2)) := by
    rcases hl with ⟨rfl, hnil⟩ | ⟨lb, lcap, rfl, hlb, hlc⟩
    · exact ⟨none, 0, (by rw [hnil]; rfl), fun i x hx => (by rw [hnil] at hx; cases hx)⟩
    · exact ⟨_, lcap, rfl, fun i x hx => ⟨lb, rfl, hlb, hlc i x hx⟩⟩
  obtain ⟨la, lcap, rfl, HLC⟩ := hlv
  clear hl
  have hA : Below w.heap.size w ((w.alloc (.cells #[.slice (some ⟨sb, 0, none⟩) d.n scap, .slice la d.late.length lcap, .int .i64 lim, .bool g0] 31)).alloc (.cells #[] 9)) := by go_grown
  have hown0 : ((w.alloc (.cells #[.slice (some ⟨sb, 0, none⟩) d.n scap, .slice la d.late.length lcap, .int .i64 lim, .bool g0] 31)).alloc (.cells #[] 9)).ownsRow w.heap.size 9 1 (.slice (some ⟨w.heap.size + 1, 0, none⟩) 0 0) 0 [] :=
    ⟨rfl, .inr ⟨_, 0, #[], rfl, Nat.le_succ _, heap_alloc2_new w _ _, Nat.le_refl _, Nat.zero_le _, rfl, rfl⟩⟩
  have hboxc : ((w.alloc (.cells #[.slice (some ⟨sb, 0, none⟩) d.n scap, .slice la d.late.length lcap, .int .i64 lim, .bool g0] 31)).alloc (.cells #[] 9)).heap[w.heap.size]? = some (.cells #[.slice (some ⟨sb, 0, none⟩) d.n scap, .slice la d.late.length lcap, .int .i64 lim, .bool g0] 31 (0, 0)) := heap_alloc2_old w _ _
  have hnews : ∀ j u, (textList d.n d.safe)[j]? = some u → ((w.alloc (.cells #[.slice (some ⟨sb, 0, none⟩) d.n scap, .slice la d.late.length lcap, .int .i64 lim, .bool g0] 31)).alloc (.cells #[] 9)).cell? ((⟨sb, 0, none⟩ : Addr).add j) = some u := fun j u hu => by
    have hj : j < d.n := by have := (List.getElem?_eq_some_iff.1 hu).1; rwa [textList_length] at this
    rw [textList_get d.n d.safe hj] at hu
    rw [Addr.add_mid, Nat.zero_add, ← hu]
    exact (hA.cell (p := ⟨sb, j, none⟩) hsb).trans (HSC.out j hj)
  have HA := Lib.hid hA
  have HO0 := Lib.hid hown0
  have HBX := Lib.hid hboxc
  have HNW := Lib.hid hnews
  clear hA hown0 hboxc hnews
  go_enter Try.func25, Try.ntmps25
  go_wp2_with (at_builtin; refine wpList_append_lies _ rfl (.tmp 13) (.tmp 15) 28 rfl w.heap.size 9 i0 _ 1 16 Try.underlying28 HI.out.1 HI.out.2.1 HI.out.2.2.1 HI.out.2.2.2 rfl (by decide) (.slice (some ⟨w.heap.size + 1, 0, none⟩) 0 0) 0 [] rfl HO0.out ⟨sb, 0, none⟩ d.n scap (textList d.n d.safe) rfl (by rw [textList_length, Nat.mul_one]) HNW.out (textList_one _ _) (by omega) (by unfold maxLen; omega) (by omega) (by simp; omega) _ rfl ?_; intro g cap w4 hown hgrow hat hlt)
  have hg : w.heap.size + 1 ≤ g := by
    rcases hat with h | h
    · have : w.heap.size + 1 = g := by simpa [Value.ownBlock] using h
      omega
    · rw [h]; simp
  rw [Nat.zero_add] at hown
  rw [List.nil_append] at hown
  have hb4 : Below w.heap.size w w4 := HA.out.grown hgrow (by simp; omega) (fun k hk => by
    have : w.heap.size + 1 = k := by simpa [Value.ownBlock] using hk
    omega)
  have ht4 : TextsAt w4 g d.n 9 d.safe := texts_owned hown
  have hx4 : w4.heap[w.heap.size]? = some (.cells #[.slice (some ⟨sb, 0, none⟩) d.n scap, .slice la d.late.length lcap, .int .i64 lim, .bool g0] 31 (0, 0)) :=
    (hgrow.block w.heap.size (by simp; omega) (by simp [Value.ownBlock])).trans HBX.out
  have HB4 := Lib.hid hb4
  have HT4 := Lib.hid ht4
  have HX4 := Lib.hid hx4
  clear hat hown hgrow hb4 ht4 hx4 hlt HNW HO0 HBX HA
  go_loopw [10] (fun i wr => ∃ k : Nat, k ≤ d.late.length ∧ i = .int .i64 k ∧ Keeps (fun j => j = g) w4 wr ∧ TextsAt wr g d.n 9 (d.crashTo m t c k)) (fun i _ => d.late.length - (intOf i).toNat)
  case atStart => exact ⟨0, Nat.zero_le _, rfl, Keeps.refl _ _, HT4.out⟩
  case round =>
    obtain ⟨k, hk, rfl, hkr, htr⟩ := hrel
    have hlt4 : w.heap.size < w4.heap.size := heap_lt HX4.out
    have hxr : wr.heap[w.heap.size]? = some (.cells #[.slice (some ⟨sb, 0, none⟩) d.n scap, .slice la d.late.length lcap, .int .i64 lim, .bool g0] 31 (0, 0)) := (hkr.block w.heap.size hlt4 (by omega)).trans HX4.out
    have hbr : Below w.heap.size w wr := HB4.out.trans (hkr.below (fun i hi => by omega) (Nat.le_of_lt hlt4))
    have e1 : wr.cell? ⟨w.heap.size, 1, none⟩ = some (.slice la d.late.length lcap) := by rw [cell_of_row _ _ _ _ _ _ hxr]; rfl
    have HTR := Lib.hid htr
    have HBR := Lib.hid hbr
    clear hxr hlt4 htr hbr
    by_cases hlt : k < d.late.length
    · obtain ⟨x, hx⟩ : ∃ x, d.late[k]? = some x := ⟨_, List.getElem?_eq_getElem hlt⟩
      obtain ⟨lb, rfl, hlb, hc0, hc1⟩ := HLC.out k x hx
      have hxw := HW.out.late x (List.mem_of_getElem? hx)
      have hx1 : x.1 < d.n := hxw.1
      have hx2 : x.2.size ≤ 256 := Nat.le_of_eq hxw.2
      have hx3 : 256 ≤ x.2.size := Nat.le_of_eq hxw.2.symm
      have a0 := (HBR.out.cell (p := ⟨lb, k * 2, none⟩) hlb).trans hc0
      have a1 := (HBR.out.cell (p := ⟨lb, k * 2 + 1, none⟩) hlb).trans hc1
      have a2 := HTR.out.cell hx1
      have a3 := HTR.out.thaw x.1
      have hfs := D.crashTo_size HW.out m t c k x.1 hx1
      have hf2 : (d.crashTo m t c k x.1).size ≤ 256 := Nat.le_of_eq hfs
      have hf3 : 256 ≤ (d.crashTo m t c k x.1).size := Nat.le_of_eq hfs.symm
      have hx3i : (256 : Int) ≤ (x.2.size : Int) := by omega
      have hf3i : (256 : Int) ≤ ((d.crashTo m t c k x.1).size : Int) := by omega
      have HXK := Lib.hid hx
      have HXS := Lib.hid hxw.2
      have HFS := Lib.hid hfs
      have hll : d.late.length ≤ 4294967296 := Nat.le_of_lt hlen
      clear hx hxw hc0 hc1 hfs
      generalize hF : d.crashTo m t c k x.1 = F at *
      have HF := Lib.hid hF
      clear hF
      by_cases b : bitB m k = true
      · have HB := Lib.hid b
        clear b
        by_cases e : (k : Int) = t
        · obtain rfl : t = (k : Int) := e.symm
          have he : ((k : Int) == (k : Int)) = true := by simp
          clear e
          rcases Int.lt_or_le c 0 with q | q
          · go_wp2_with fail
            refine (rbit_any _ m k m0 m1 (by omega)).mono ?_
            rintro e _ ⟨rfl, rfl⟩
            rw [HB.out]
            go_wp2_with fail
            refine wp_region_still_tail 18 (by kernel_rfl) (by kernel_rfl) ?_
            simp only [List.take_succ_cons, List.take_zero, List.drop_succ_cons, List.drop_zero]
            change wpStill _ _ wr.drew _ _ _
            iterate 16 still_step
            have hsum : (ByteArray.empty).size + (F).size ≤ 4294967296 := by first | (simp only [ByteArray.size_extract]; omega) | (simp; omega)
            generalize hP : ByteArray.empty = zp at *
            have HP := Lib.hid hP
            clear hP
            refine still_concat rfl (.tmp 53) (.tmp 59) rfl zp F rfl rfl hsum ?_
            still_step
            refine wpStill_nil ?_
            go_wp2
            go_roundw
            case rel => exact ⟨k + 1, by omega, by go_num, hkr.drew.setCell (.inl rfl) _, kept_row HXK.out hx1 HB.out HF.out HXS.out HFS.out 0 (by unfold tornTo; rw [if_pos rfl]; omega) (by omega) _ HTR.out (by rw [← HP.out]; exact empty_cat _ _)⟩
            case measure => simp [intOf]; omega
          · rcases Int.lt_or_le c 256 with q2 | q2
            · obtain ⟨n, rfl⟩ := Int.eq_ofNat_of_zero_le q
              have hq1 : n ≤ x.2.size := by omega
              have hq2 : n ≤ F.size := by omega
              go_wp2_with fail
              refine (rbit_any _ m k m0 m1 (by omega)).mono ?_
              rintro e _ ⟨rfl, rfl⟩
              rw [HB.out]
              go_wp2_with fail
              refine wp_region_still_tail 18 (by kernel_rfl) (by kernel_rfl) ?_
              simp only [List.take_succ_cons, List.take_zero, List.drop_succ_cons, List.drop_zero]
              change wpStill _ _ wr.drew _ _ _
              iterate 16 still_step
              have hsum : ((x.2.extract 0 n)).size + ((F.extract n F.size)).size ≤ 4294967296 := by first | (simp only [ByteArray.size_extract]; omega) | (simp; omega)
              generalize hP : (x.2.extract 0 n) = zp at *
              generalize hQ : (F.extract n F.size) = zq at *
              have HP := Lib.hid hP
              have HQ := Lib.hid hQ
              clear hP hQ
              refine still_concat rfl (.tmp 53) (.tmp 59) rfl zp zq rfl rfl hsum ?_
              still_step
              refine wpStill_nil ?_
              go_wp2
              go_roundw
              case rel => exact ⟨k + 1, by omega, by go_num, hkr.drew.setCell (.inl rfl) _, kept_row HXK.out hx1 HB.out HF.out HXS.out HFS.out n (by unfold tornTo; rw [if_pos rfl]; omega) (by omega) _ HTR.out (by rw [← HP.out, ← HQ.out])⟩
              case measure => simp [intOf]; omega
            · have hc : decide (c < 256) = false := by simp; omega
              go_wp2_with fail
              refine (rbit_any _ m k m0 m1 (by omega)).mono ?_
              rintro e _ ⟨rfl, rfl⟩
              rw [HB.out]
              go_wp2_with fail
              refine wp_region_still_tail 18 (by kernel_rfl) (by kernel_rfl) ?_
              simp only [List.take_succ_cons, List.take_zero, List.drop_succ_cons, List.drop_zero]
              change wpStill _ _ wr.drew _ _ _
              iterate 16 still_step
              have hsum : ((x.2.extract 0 256)).size + ((F.extract 256 F.size)).size ≤ 4294967296 := by first | (simp only [ByteArray.size_extract]; omega) | (simp; omega)
              generalize hP : (x.2.extract 0 256) = zp at *
              generalize hQ : (F.extract 256 F.size) = zq at *
              have HP := Lib.hid hP
              have HQ := Lib.hid hQ
              clear hP hQ
              refine still_concat rfl (.tmp 53) (.tmp 59) rfl zp zq rfl rfl hsum ?_
              still_step
              refine wpStill_nil ?_
              go_wp2
              go_roundw
              case rel => exact ⟨k + 1, by omega, by go_num, hkr.drew.setCell (.inl rfl) _, kept_row HXK.out hx1 HB.out HF.out HXS.out HFS.out 256 (by unfold tornTo; rw [if_pos rfl]; omega) (by omega) _ HTR.out (by rw [← HP.out, ← HQ.out])⟩
              case measure => simp [intOf]; omega
        · have he : ((k : Int) == t) = false := by simpa using e
          have HE := Lib.hid e
          clear e
          go_wp2_with fail
          refine (rbit_any _ m k m0 m1 (by omega)).mono ?_
          rintro e _ ⟨rfl, rfl⟩
          rw [HB.out]
          go_wp2_with fail
          refine wp_region_still_tail 18 (by kernel_rfl) (by kernel_rfl) ?_
          simp only [List.take_succ_cons, List.take_zero, List.drop_succ_cons, List.drop_zero]
          change wpStill _ _ wr.drew _ _ _
          iterate 16 still_step
          have hsum : ((x.2.extract 0 256)).size + ((F.extract 256 F.size)).size ≤ 4294967296 := by first | (simp only [ByteArray.size_extract]; omega) | (simp; omega)
          generalize hP : (x.2.extract 0 256) = zp at *
          generalize hQ : (F.extract 256 F.size) = zq at *
          have HP := Lib.hid hP
          have HQ := Lib.hid hQ
          clear hP hQ
          refine still_concat rfl (.tmp 53) (.tmp 59) rfl zp zq rfl rfl hsum ?_
          still_step
          refine wpStill_nil ?_
          go_wp2
          go_roundw
          case rel => exact ⟨k + 1, by omega, by go_num, hkr.drew.setCell (.inl rfl) _, kept_row HXK.out hx1 HB.out HF.out HXS.out HFS.out 256 (by unfold tornTo; rw [if_neg HE.out]) (by omega) _ HTR.out (by rw [← HP.out, ← HQ.out])⟩
          case measure => simp [intOf]; omega
      · have HB := Lib.hid (show bitB m k = false by simpa using b)
        clear b
        go_wp2_with fail
        refine (rbit_any _ m k m0 m1 (by omega)).mono ?_
        rintro e _ ⟨rfl, rfl⟩
        rw [HB.out]
        go_wp2
        go_roundw
        case rel =>
          refine ⟨k + 1, by omega, by go_num, hkr, ?_⟩
          rw [D.crashTo_lost HXK.out HB.out]
          exact HTR.out
        case measure => simp [intOf]; omega
    · have hk2 : k = d.late.length := by omega
      have HK := Lib.hid hk2
      clear hk2
      go_wp2
      go_returns
      refine ⟨g, cap, rfl, ?_, HBR.out, by omega⟩
      rw [← HK.out]
      exact HTR.out.safe cap
end Go.Proofs.Ytcefljfocagcoaa
