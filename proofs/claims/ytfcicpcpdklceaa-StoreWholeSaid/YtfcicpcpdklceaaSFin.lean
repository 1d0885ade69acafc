/- Package store: finish. Package store: finish, walked. -/
import Derived.Test.YtfcicpcpdklceaaSC
import Derived.Test.YtfcicpcpdklceaaSJPack
namespace Go.Proofs.Ytfcicpcpdklceaa
set_option maxRecDepth 100000
open Go.ChangeShapes Go.WideShapes Go.ChangeAt Go.RowKit Go.PlainAid
open Go.Sort (grow)

/-- A new block beside the disk, made by a call. -/
theorem OwnL.add {w0 w w1 : World} {p g : Nat} {d : D} {L : List (Nat × Obj)} {o : Obj} (h : OwnL w0 p d L w) (b : Below w.heap.size w w1) (hg : w.heap.size ≤ g) (ho : w1.heap[g]? = some o) : OwnL w0 p d ((g, o) :: L) w1 := by
  have h1 := h.on b
  obtain ⟨F, hp, hd, hb, hown, hL⟩ := h
  refine ⟨F, hp, DiskAt.below hd b, hb.on b, hown, fun x hx => ?_⟩
  rcases List.mem_cons.1 hx with rfl | hx
  · refine ⟨fun c => ?_, ho⟩
    have := DiskAt.own_lt hd c
    exact Nat.lt_irrefl _ (Nat.lt_of_lt_of_le this hg)
  · exact ⟨(hL x hx).1, (b.block x.1 (heap_lt (hL x hx).2)).trans (hL x hx).2⟩
theorem OwnL.perm {w0 w : World} {p : Nat} {d : D} {L L' : List (Nat × Obj)} (h : OwnL w0 p d L w) (hs : ∀ x ∈ L', x ∈ L) : OwnL w0 p d L' w := h.sub L' hs
theorem StR.add {w0 w w1 : World} {p q bm g : Nat} {d : D} {h : Hd} {dead : Bool} {R : List (Nat × Obj)} {o : Obj} (H : StR w0 p q bm d h dead R w) (b : Below w.heap.size w w1) (hg : w.heap.size ≤ g) (ho : w1.heap[g]? = some o) :
    StR w0 p q bm d h dead ((g, o) :: R) w1 := by
  have hq := heap_lt H.at
  refine ⟨(H.own.add b hg ho).sub _ fun x hx => ?_, H.lo, fun x hx => ?_⟩
  · simp only [List.mem_cons] at hx ⊢
    rcases hx with h | h | h <;> simp [h]
  · rcases List.mem_cons.1 hx with rfl | hx
    · show g ≠ q; omega
    · exact H.ne x hx
theorem StR.sub {w0 w : World} {p q bm : Nat} {d : D} {h : Hd} {dead : Bool} {R : List (Nat × Obj)} (H : StR w0 p q bm d h dead R w) (R' : List (Nat × Obj)) (hs : ∀ x ∈ R', x ∈ R) : StR w0 p q bm d h dead R' w := by
  refine ⟨H.own.sub _ fun x hx => ?_, H.lo, fun x hx => H.ne x (hs x hx)⟩
  simp only [List.mem_cons] at hx ⊢
  rcases hx with h | h
  · exact .inl h
  · exact .inr (hs x h)
theorem PgR.mono {R R' : List (Nat × Obj)} {v : Value} {l : List PageV} (h : PgR R v l) (hs : ∀ x ∈ R, x ∈ R') : PgR R' v l := by
  rcases h with h | ⟨g, cap, C, hv, hm, hc, hn⟩
  · exact .inl h
  · exact .inr ⟨g, cap, C, hv, hs _ hm, hc, hn⟩

/-- Pages, packed: the texts of the blocks. -/
def packB (l : List PageV) : List ByteArray := ((List.range (chunks (headT (l.length : Int) l).size)).map fun k => filled (chunkT (headT (l.length : Int) l) k)) ++ l.map fun p => filled p.data
theorem packT_eq (l : List PageV) : packT l = (packB l).map Value.string := by
  simp [packT, packB, numT, pageT, List.map_append, List.map_map, Function.comp_def]
theorem headT_full (l : List PageV) : (headT (l.length : Int) l).size = 4 + 4 * l.length := by
  have := headT_size (l.length : Int) l.length l (Nat.le_refl _)
  rwa [List.take_length] at this
theorem packB_length (l : List PageV) : (packB l).length = blocksN l.length := by
  unfold packB blocksN chunks
  rw [List.length_append, List.length_map, List.length_map, List.length_range, headT_full]
  omega
theorem packB_size (l : List PageV) : ∀ s ∈ packB l, s.size = 256 := by
  intro s hs
  unfold packB at hs
  rcases List.mem_append.1 hs with hs | hs
  · obtain ⟨_, _, rfl⟩ := List.mem_map.1 hs; exact filled_size _
  · obtain ⟨_, _, rfl⟩ := List.mem_map.1 hs; exact filled_size _
/-- The writes of the journal's blocks. -/
def blockOps : Nat → List ByteArray → List DOp
  | _, [] => []
  | i, s :: r => .wr ((2 + i : Nat) : Int) s :: blockOps (i + 1) r
theorem blockOps_app : ∀ (a b : List ByteArray) (i : Nat), blockOps i (a ++ b) = blockOps i a ++ blockOps (i + a.length) b
  | [], _, _ => rfl
  | s :: a, b, i => by
    rw [List.cons_append, blockOps, blockOps, blockOps_app a b (i + 1), List.length_cons, List.cons_append, show i + 1 + a.length = i + (a.length + 1) by omega]
theorem blockOps_length : ∀ (a : List ByteArray) (i : Nat), (blockOps i a).length = a.length
  | [], _ => rfl
  | s :: a, i => by rw [blockOps, List.length_cons, List.length_cons, blockOps_length a]
theorem blockOps_snoc (bs : List ByteArray) {k : Nat} {s : ByteArray} (h : bs[k]? = some s) : blockOps 0 (bs.take (k + 1)) = blockOps 0 (bs.take k) ++ [.wr ((2 + k : Nat) : Int) s] := by
  have hk := (List.getElem?_eq_some_iff.1 h).1
  rw [List.take_add_one, h, blockOps_app, Nat.zero_add, List.length_take, Nat.min_eq_left (Nat.le_of_lt hk)]
  rfl
theorem blockOps_split (bs : List ByteArray) {k : Nat} {s : ByteArray} (h : bs[k]? = some s) : ∃ b, blockOps 0 bs = blockOps 0 (bs.take k) ++ (.wr ((2 + k : Nat) : Int) s :: b) := by
  obtain ⟨hk, he⟩ := List.getElem?_eq_some_iff.1 h
  have e : bs = bs.take k ++ (s :: bs.drop (k + 1)) := by rw [← he, ← List.drop_eq_getElem_cons hk, List.take_append_drop]
  refine ⟨blockOps (k + 1) (bs.drop (k + 1)), ?_⟩
  conv => lhs; rw [e]
  rw [blockOps_app, Nat.zero_add, List.length_take, Nat.min_eq_left (Nat.le_of_lt hk)]
  rfl
/-- All of a commit. -/
def commitOps (h : Hd) (l : List PageV) : List DOp := blockOps 0 (packB l) ++ (.fl :: (putOps (h.next (packB l).length) ++ homeOps (h.next (packB l).length) l))
end Go.Proofs.Ytfcicpcpdklceaa
namespace Go.Proofs.Ytfcicpcpdklceaa
set_option maxRecDepth 100000
open Go.ChangeShapes Go.WideShapes Go.ChangeAt Go.RowKit Go.PlainAid
open Go.Sort (grow)

theorem row_open {w : World} {base : Nat} {e : TypeId} {v : Value} {n : Nat} {xs : List Value} (h : w.ownsRow base e 1 v n xs) (hn : 0 < n) : ∃ g cap cur, v = .slice (some ⟨g, 0, none⟩) n cap ∧ base ≤ g ∧ w.heap[g]? = some (.cells cur e (0, 0)) ∧ cur.toList.take n = xs := by
  obtain ⟨h1, h2⟩ := h
  rcases h2 with ⟨_, h2⟩ | ⟨g, cap, cur, hv, hb, hg, hn2, hc, hsz, ht⟩
  · omega
  · rw [Nat.mul_one] at ht
    exact ⟨g, cap, cur, hv, hb, hg, ht⟩
theorem row_cell {w : World} {g n : Nat} {cur : Array Value} {e : TypeId} {bs : List ByteArray} (hg : w.heap[g]? = some (.cells cur e (0, 0))) (ht : cur.toList.take n = bs.map Value.string) {k : Nat} {s : ByteArray} (hk : k < n) (hs : bs[k]? = some s) : w.cell? ⟨g, k, none⟩ = some (.string s) := by
  have e : cur[k]? = some (.string s) := by
    rw [← Array.getElem?_toList, ← List.getElem?_take_of_lt hk, ht, List.getElem?_map, hs]; rfl
  rw [cell_of_row _ _ _ _ _ _ hg, e]
/-- A commit, part by part. -/
theorem commit_blocks_err {d : D} {h : Hd} {l : List PageV} {k : Nat} {s : ByteArray} (hs : (packB l)[k]? = some s) (h0 : opsE d (blockOps 0 ((packB l).take k)) = 0) (e : writeE (d.ops (blockOps 0 ((packB l).take k))) ((2 + k : Nat) : Int) s ≠ 0) :
    d.ops (commitOps h l) = (d.ops (blockOps 0 ((packB l).take k))).write ((2 + k : Nat) : Int) s ∧ opsE d (commitOps h l) = writeE (d.ops (blockOps 0 ((packB l).take k))) ((2 + k : Nat) : Int) s := by
  obtain ⟨b, hb⟩ := blockOps_split (packB l) hs
  unfold commitOps
  rw [hb, List.append_assoc, List.cons_append]
  exact ops_step_err (.wr ((2 + k : Nat) : Int) s) _ h0 e
theorem commit_flush_err {d : D} {h : Hd} {l : List PageV} (h0 : opsE d (blockOps 0 (packB l)) = 0) (e : flushE (d.ops (blockOps 0 (packB l))) ≠ 0) :
    d.ops (commitOps h l) = (d.ops (blockOps 0 (packB l))).flush ∧ opsE d (commitOps h l) = flushE (d.ops (blockOps 0 (packB l))) :=
  ops_step_err .fl _ h0 e
theorem commit_flush_ok {d : D} {h : Hd} {l : List PageV} (h0 : opsE d (blockOps 0 (packB l)) = 0) (e : flushE (d.ops (blockOps 0 (packB l))) = 0) :
    d.ops (commitOps h l) = (d.ops (blockOps 0 (packB l))).flush.ops (putOps (h.next (packB l).length) ++ homeOps (h.next (packB l).length) l) ∧ opsE d (commitOps h l) = opsE (d.ops (blockOps 0 (packB l))).flush (putOps (h.next (packB l).length) ++ homeOps (h.next (packB l).length) l) := by
  have h1 := ops_app_ok (.fl :: (putOps (h.next (packB l).length) ++ homeOps (h.next (packB l).length) l)) h0
  have h2 := ops_cons_ok (d := d.ops (blockOps 0 (packB l))) (o := .fl) (putOps (h.next (packB l).length) ++ homeOps (h.next (packB l).length) l) e
  exact ⟨h1.1.trans h2.1, h1.2.trans h2.2⟩

theorem fit_err {h : Hd} (hw : h.Wf) {l : List PageV} (hf : Fit h l) : ∀ p ∈ l, p.err = 0 := by
  intro p hp
  obtain ⟨a, b, c⟩ := hf p hp
  have := hw.pages
  unfold PageV.err
  rw [if_neg (by omega), if_neg (by omega)]
theorem PgR.pagesIn {R : List (Nat × Obj)} {v : Value} {l : List PageV} (h : PgR R v l) {w : World} (hw : ∀ y ∈ R, w.heap[y.1]? = some y.2) (hs : ∀ x ∈ l, x.Wf) : PagesIn w v l := by
  rcases h with ⟨rfl, rfl⟩ | ⟨g, cap, C, hv, hm, hc, hn⟩
  · exact .inl ⟨rfl, _, _, rfl⟩
  · rcases Nat.eq_zero_or_pos l.length with h0 | h0
    · obtain rfl := List.eq_nil_of_length_eq_zero h0
      exact .inl ⟨rfl, _, _, hv⟩
    · refine .inr ⟨g, 0, cap, hv, heap_lt' (hw _ hm), h0, by omega, fun i x hx => ⟨hs x (List.mem_of_getElem? hx), fun j v hv => ?_⟩⟩
      have hk := (List.getElem?_eq_some_iff.1 hx).1
      have hj : j < 2 := by have := (List.getElem?_eq_some_iff.1 hv).1; simpa [PageV.cells] using this
      rw [cell_of_row w g _ C _ _ (hw _ hm), Nat.zero_add]
      rw [← hv, ← pageCells_get l i j x hx hj, ← hc, List.getElem?_take_of_lt (by omega), Array.getElem?_toList]
set_option maxHeartbeats 1000000 in
theorem finish_any {w0 w : World} {p q bm : Nat} {d : D} {h : Hd} {dead : Bool} {R : List (Nat × Obj)} {v : Value} {l : List PageV} (H : StR w0 p q bm d h dead R w) (hv : PgR R v l) (hf : Fit h l)
    (hw : h.Wf) (hs : h.seq + 2 < 1000000) (hn : l.length ≤ 1000) (hl : d.late.length < 100000) :
    Calls Try.prog 29 #[.pointer (some ⟨q, 0, none⟩), v] w fun e w' =>
      e = .returned (.int .i64 (opsE d (commitOps h l))) ∧ ∃ h', h'.room = h.room ∧ h'.pages = h.pages ∧ (opsE d (commitOps h l) = 0 → h' = (h.next (packB l).length).next 0) ∧ StR w0 p q bm (d.ops (commitOps h l)) h' dead R w' := by
  have hnb : (packB l).length ≤ 2048 := by rw [packB_length]; unfold blocksN; omega
  have hnp : 0 < (packB l).length := by rw [packB_length]; unfold blocksN; omega
  have hpw : ∀ x ∈ l, x.Wf := fun x hx => by
    obtain ⟨a, b, c⟩ := hf x hx
    have := hw.pages
    exact ⟨⟨by omega, by omega⟩, by unfold maxLen; omega⟩
  have HPK := Lib.hid (pack_ok w v l (hv.pagesIn (fun y hy => H.mem hy) hpw) (by omega) (fit_err hw hf))
  have HV := Lib.hid hv
  clear hv
  have HH := Lib.hid H
  have HF := Lib.hid hf
  have HW := Lib.hid hw
  have HBS := Lib.hid (packB_size l)
  clear H hf hw hpw
  go_enter Try.func29, Try.ntmps29
  go_wp2_with fail
  refine HPK.out.mono ?_
  rintro e w1 ⟨sv, rfl, hrow, hb1⟩
  rw [packT_eq, List.length_map] at hrow
  obtain ⟨g, cap, cur, rfl, hg, hgb, hcur⟩ := row_open hrow hnp
  have HR := Lib.hid (HH.out.add hb1 hg hgb)
  have HC := Lib.hid hcur
  clear hrow hb1 hg hgb HPK hcur
  go_wp2_with fail
  generalize hR2 : (g, Obj.cells cur 9 (0, 0)) :: R = R2 at *
  have HR2 := Lib.hid hR2
  clear hR2
  have h00 : d.ops (blockOps 0 ((packB l).take 0)) = d ∧ opsE d (blockOps 0 ((packB l).take 0)) = 0 := ⟨rfl, rfl⟩
  have HH0 : Hid (StR w0 p q bm (d.ops (blockOps 0 ((packB l).take 0))) h dead R2 w1) := HR
  go_loopw [22] (fun i wr => ∃ k : Nat, k ≤ (packB l).length ∧ i = .int .i64 k ∧ opsE d (blockOps 0 ((packB l).take k)) = 0 ∧ StR w0 p q bm (d.ops (blockOps 0 ((packB l).take k))) h dead R2 wr) (fun i _ => (packB l).length - (intOf i).toNat)
  case atStart => exact ⟨0, Nat.zero_le _, rfl, h00.2, HH0.out⟩
  case round =>
    clear HH HH0 h00 HR
    obtain ⟨k, hk, rfl, hE, hH⟩ := hrel
    have HH := Lib.hid hH
    have HE := Lib.hid hE
    clear hH hE
    have hol := ops_late (blockOps 0 ((packB l).take k)) d
    have hpl : (blockOps 0 ((packB l).take k)).length ≤ 2048 := by rw [blockOps_length, List.length_take]; omega
    obtain ⟨c0, c1, c2, c3, c4, c5, c6⟩ := store_cells HH.out.at
    by_cases hlt : k < (packB l).length
    · obtain ⟨s, hx⟩ : ∃ s, (packB l)[k]? = some s := ⟨_, List.getElem?_eq_getElem hlt⟩
      have e0 := row_cell (HH.out.mem (x := (g, Obj.cells cur 9 (0, 0))) (by rw [← HR2.out]; exact List.mem_cons_self)) HC.out hlt hx
      have HSN := Lib.hid (blockOps_snoc (packB l) hx)
      have HER := Lib.hid (commit_blocks_err (d := d) (h := h) hx HE.out)
      have HOK := Lib.hid (ops_step_ok (d := d) (a := blockOps 0 ((packB l).take k)) (.wr ((2 + k : Nat) : Int) s) HE.out)
      have HWR := Lib.hid (q_write HH.out.own ((2 + k : Nat) : Int) s (by omega) (by omega) (by omega))
      have hkk : (2 : Int) + (k : Int) = ((2 + k : Nat) : Int) := by omega
      clear hx hol hpl HE
      generalize d.ops (blockOps 0 ((packB l).take k)) = d2 at *
      obtain ⟨kk, hk2⟩ : ∃ kk : Nat, kk = 2 + k := ⟨_, rfl⟩
      rw [← hk2] at HSN HER HOK HWR hkk
      clear hk2
      go_wp2_with fail
      ((with_reducible refine HWR.out.mono ?_); rintro e w2 ⟨rfl, H2⟩)
      have H3 := Lib.hid (HH.out.ops H2)
      clear H2 c0 c1 c2 c3 c4 c5 c6 e0 hkk
      by_cases z : writeE d2 (kk : Int) s = 0
      · have HO := Lib.hid (HOK.out z)
        rw [z]
        clear z
        go_wp2
        go_roundw
        case rel => exact ⟨k + 1, by omega, by go_num, by rw [HSN.out]; exact HO.out.2, by rw [HSN.out, HO.out.1]; exact H3.out⟩
        case measure => simp [intOf]; omega
      · have HO := Lib.hid (HER.out z)
        have hz : (writeE d2 (kk : Int) s == 0) = false := by simpa using z
        have HZ := Lib.hid z
        clear z
        go_wp2
        go_returns
        obtain ⟨o1, o2⟩ := HO.out
        exact ⟨ret_i o2.symm, h, rfl, rfl, fun e => absurd (o2.symm.trans e) HZ.out, by rw [o1]; exact H3.out.sub R (fun x hx => by rw [← HR2.out]; exact List.mem_cons_of_mem _ hx)⟩
    · obtain rfl : k = (packB l).length := by omega
      rw [List.take_length] at HH HE hol hpl
      have CF := Lib.hid (q_flush HH.out.own (by omega))
      have hol2 := op_late (d.ops (blockOps 0 (packB l))) .fl
      have hlt3 : (d.ops (blockOps 0 (packB l))).flush.late.length < 200000 := by
        have e : (d.ops (blockOps 0 (packB l))).op .fl = (d.ops (blockOps 0 (packB l))).flush := rfl
        rw [e] at hol2
        omega
      clear hol hpl hol2
      go_wp2_with fail
      refine CF.out.mono ?_
      rintro e w3 ⟨rfl, H3⟩
      have H4 := Lib.hid (HH.out.ops H3)
      clear H3 CF c0 c1 c2 c3 c4 c5 c6
      by_cases z : flushE (d.ops (blockOps 0 (packB l))) = 0
      · have HO := Lib.hid (commit_flush_ok (h := h) HE.out z)
        rw [z]
        clear z
        generalize (d.ops (blockOps 0 (packB l))).flush = d3 at *
        generalize hnn : (packB l).length = n at *
        have hnn2 := Lib.hid hnn
        clear hnn
        go_wp2_with fail
        refine (next_any' H4.out n HW.out (by omega) hnb (by omega)).mono ?_
        rintro e w4 ⟨rfl, H5⟩
        have H6 := Lib.hid H5
        clear H5
        have hol := ops_late (putOps (h.next n)) d3
        have hpl : (putOps (h.next n)).length = 2 := rfl
        by_cases z : opsE d3 (putOps (h.next n)) = 0
        · have HP := Lib.hid (ops_app_ok (homeOps (h.next n) l) z)
          rw [z]
          clear z
          have hw2 : (h.next n).Wf := ⟨by show h.seq + 1 ≤ _; omega, hnb, HW.out.room, HW.out.pages⟩
          have HHM := Lib.hid (home_any H6.out (HV.out.mono (fun x hx => by rw [← HR2.out]; exact List.mem_cons_of_mem _ hx)) (show Fit (h.next n) l from HF.out) hw2 (by show h.seq + 1 < _; omega) (by omega))
          clear hol hpl hw2
          generalize d3.ops (putOps (h.next n)) = d4 at *
          go_wp2_with fail
          refine HHM.out.mono ?_
          rintro e w5 ⟨rfl, h', hh1, hh2, H7⟩
          have H8 := Lib.hid H7
          have HH1 := Lib.hid hh1
          have HH2 := Lib.hid hh2
          clear H7 hh1 hh2
          go_wp2
          go_returns
          obtain ⟨o1, o2⟩ := HO.out
          obtain ⟨p1, p2⟩ := HP.out
          have hrp : h'.room = h.room ∧ h'.pages = h.pages := by rcases HH1.out with rfl | rfl <;> exact ⟨rfl, rfl⟩
          exact ⟨ret_i (o2.trans p2).symm, h', hrp.1, hrp.2, fun e => HH2.out ((o2.trans p2).symm.trans e), by rw [o1, p1]; exact H8.out.sub R (fun x hx => by rw [← HR2.out]; exact List.mem_cons_of_mem _ hx)⟩
        · have HP := Lib.hid (ops_app_err (homeOps (h.next n) l) z)
          have hz : (opsE d3 (putOps (h.next n)) == 0) = false := by simpa using z
          have HZ := Lib.hid z
          clear z
          go_wp2
          go_returns
          obtain ⟨o1, o2⟩ := HO.out
          obtain ⟨p1, p2⟩ := HP.out
          exact ⟨ret_i (o2.trans p2).symm, h.next n, rfl, rfl, fun e => absurd ((o2.trans p2).symm.trans e) HZ.out, by rw [o1, p1]; exact H6.out.sub R (fun x hx => by rw [← HR2.out]; exact List.mem_cons_of_mem _ hx)⟩
      · have HO := Lib.hid (commit_flush_err (h := h) HE.out z)
        have hz : (flushE (d.ops (blockOps 0 (packB l))) == 0) = false := by simpa using z
        have HZ := Lib.hid z
        clear z
        go_wp2
        go_returns
        obtain ⟨o1, o2⟩ := HO.out
        exact ⟨ret_i o2.symm, h, rfl, rfl, fun e => absurd (o2.symm.trans e) HZ.out, by rw [o1]; exact H4.out.sub R (fun x hx => by rw [← HR2.out]; exact List.mem_cons_of_mem _ hx)⟩
end Go.Proofs.Ytfcicpcpdklceaa
