/- Package store: home. -/
import Derived.Test.YtfcicpcpdklceaaSBase
import Derived.StillTailTactics
import Derived.Lib.QuietBelow
namespace Go.Proofs.Ytfcicpcpdklceaa
set_option maxRecDepth 100000
open Go.ChangeShapes Go.WideShapes Go.ChangeAt Go.RowKit Go.PlainAid
open Go.Sort (grow)

/-- The cells of pages. -/
def pageCells (l : List PageV) : List Value := l.flatMap PageV.cells
theorem pageCells_length : ∀ l : List PageV, (pageCells l).length = l.length * 2
  | [] => rfl
  | x :: l => by
    have := pageCells_length l
    unfold pageCells at *
    simp only [List.flatMap_cons, List.length_append, List.length_cons, PageV.cells, this, List.length_nil]
    omega
theorem pageCells_get : ∀ (l : List PageV) (i j : Nat) (x : PageV), l[i]? = some x → j < 2 → (pageCells l)[i * 2 + j]? = x.cells[j]?
  | [], _, _, _, h, _ => by simp at h
  | y :: l, 0, j, x, h, hj => by
    obtain rfl : y = x := by simpa using h
    unfold pageCells
    rw [List.flatMap_cons, Nat.zero_mul, Nat.zero_add, List.getElem?_append_left (by simp [PageV.cells]; omega)]
  | y :: l, i + 1, j, x, h, hj => by
    have := pageCells_get l i j x (by simpa using h) hj
    unfold pageCells at *
    have hl : (PageV.cells y).length = 2 := rfl
    rw [List.flatMap_cons, List.getElem?_append_right (by rw [hl]; omega), ← this, hl, show (i + 1) * 2 + j - 2 = i * 2 + j by omega]
theorem pageCells_snoc (l : List PageV) (x : PageV) : pageCells (l ++ [x]) = pageCells l ++ x.cells := by simp [pageCells]

/-- A slice of pages whose block is one of R. -/
def PgR (R : List (Nat × Obj)) (v : Value) (l : List PageV) : Prop :=
  (v = .slice none 0 0 ∧ l = []) ∨ ∃ g cap C, v = .slice (some ⟨g, 0, none⟩) l.length cap ∧ (g, Obj.cells C 49 (0, 0)) ∈ R ∧ C.toList.take (l.length * 2) = pageCells l ∧ l.length ≤ 1000000
theorem PgR.len {R : List (Nat × Obj)} {v : Value} {l : List PageV} (h : PgR R v l) : l.length ≤ 1000000 := by
  rcases h with ⟨_, rfl⟩ | ⟨_, _, _, _, _, _, h⟩
  · exact Nat.zero_le _
  · exact h
theorem PgR.cells {R : List (Nat × Obj)} {v : Value} {l : List PageV} (h : PgR R v l) {k : Nat} {x : PageV} (hx : l[k]? = some x) :
    ∃ g cap, v = .slice (some ⟨g, 0, none⟩) l.length cap ∧ ∀ w : World, (∀ y ∈ R, w.heap[y.1]? = some y.2) → w.cell? ⟨g, k * 2, none⟩ = some (.int .i64 x.at_) ∧ w.cell? ⟨g, k * 2 + 1, none⟩ = some (.string x.data) := by
  rcases h with ⟨_, rfl⟩ | ⟨g, cap, C, hv, hm, hc, _⟩
  · simp at hx
  · have hk := (List.getElem?_eq_some_iff.1 hx).1
    refine ⟨g, cap, hv, fun w hw => ?_⟩
    have hb := hw _ hm
    have hget : ∀ j, j < 2 → C[k * 2 + j]? = x.cells[j]? := fun j hj => by
      rw [← pageCells_get l k j x hx hj, ← hc, List.getElem?_take_of_lt (by omega), Array.getElem?_toList]
    have h0 := hget 0 (by omega)
    have h1 := hget 1 (by omega)
    rw [Nat.add_zero] at h0
    constructor
    · rw [cell_of_row _ _ _ _ _ _ hb, h0]; rfl
    · rw [cell_of_row _ _ _ _ _ _ hb, h1]; rfl
theorem PgR.open {R : List (Nat × Obj)} {v : Value} {l : List PageV} (h : PgR R v l) : ∃ a cap, v = .slice a l.length cap := by
  rcases h with ⟨rfl, rfl⟩ | ⟨g, cap, C, hv, _⟩
  · exact ⟨_, _, rfl⟩
  · exact ⟨_, _, hv⟩
/-- The writes of pages. -/
def pageOps (room : Nat) (l : List PageV) : List DOp := l.map fun x => .wr ((2 + room : Nat) + x.at_) x.data
theorem pageOps_snoc (room : Nat) (l : List PageV) (x : PageV) : pageOps room (l ++ [x]) = pageOps room l ++ [.wr ((2 + room : Nat) + x.at_) x.data] := by simp [pageOps]
def homeOps (h : Hd) (l : List PageV) : List DOp := pageOps h.room l ++ ([.fl] ++ putOps (h.next 0))
/-- Pages that are there. -/
def Fit (h : Hd) (l : List PageV) : Prop := ∀ x ∈ l, 0 ≤ x.at_ ∧ x.at_ < h.pages ∧ x.data.size ≤ 256

theorem ops_step_ok {d : D} {a : List DOp} (o : DOp) (h : opsE d a = 0) (e : opE (d.ops a) o = 0) : d.ops (a ++ [o]) = (d.ops a).op o ∧ opsE d (a ++ [o]) = 0 := by
  have h1 := ops_app_ok [o] h
  have h2 := ops_one (d.ops a) o
  exact ⟨h1.1.trans h2.1, h1.2.trans (h2.2.trans e)⟩
theorem ops_step_err {d : D} {a : List DOp} (o : DOp) (b : List DOp) (h : opsE d a = 0) (e : opE (d.ops a) o ≠ 0) : d.ops (a ++ (o :: b)) = (d.ops a).op o ∧ opsE d (a ++ (o :: b)) = opE (d.ops a) o := by
  have h1 := ops_app_ok (o :: b) h
  have h2 := ops_cons_err (d := d.ops a) b e
  exact ⟨h1.1.trans h2.1, h1.2.trans h2.2⟩
theorem home_split (h : Hd) {l : List PageV} {k : Nat} {x : PageV} (hx : l[k]? = some x) : ∃ b, homeOps h l = pageOps h.room (l.take k) ++ (.wr ((2 + h.room : Nat) + x.at_) x.data :: b) := by
  obtain ⟨hk, he⟩ := List.getElem?_eq_some_iff.1 hx
  have e : l = l.take k ++ (x :: l.drop (k + 1)) := by
    rw [← he, ← List.drop_eq_getElem_cons hk, List.take_append_drop]
  refine ⟨pageOps h.room (l.drop (k + 1)) ++ ([.fl] ++ putOps (h.next 0)), ?_⟩
  have e2 : pageOps h.room l = pageOps h.room (l.take k) ++ (.wr ((2 + h.room : Nat) + x.at_) x.data :: pageOps h.room (l.drop (k + 1))) := by
    conv => lhs; rw [e]
    simp [pageOps]
  unfold homeOps
  rw [e2, List.append_assoc, List.cons_append]
theorem home_end_ok {d : D} {h : Hd} {l : List PageV} (h0 : opsE d (pageOps h.room l) = 0) (e : flushE (d.ops (pageOps h.room l)) = 0) :
    d.ops (homeOps h l) = ((d.ops (pageOps h.room l)).flush).ops (putOps (h.next 0)) ∧ opsE d (homeOps h l) = opsE ((d.ops (pageOps h.room l)).flush) (putOps (h.next 0)) := by
  have h1 := ops_app_ok ([.fl] ++ putOps (h.next 0)) h0
  have h2 := ops_cons_ok (d := d.ops (pageOps h.room l)) (o := .fl) (putOps (h.next 0)) e
  exact ⟨h1.1.trans h2.1, h1.2.trans h2.2⟩
theorem home_end_err {d : D} {h : Hd} {l : List PageV} (h0 : opsE d (pageOps h.room l) = 0) (e : flushE (d.ops (pageOps h.room l)) ≠ 0) :
    d.ops (homeOps h l) = (d.ops (pageOps h.room l)).flush ∧ opsE d (homeOps h l) = flushE (d.ops (pageOps h.room l)) := by
  have h1 := ops_app_ok ([.fl] ++ putOps (h.next 0)) h0
  have h2 := ops_cons_err (d := d.ops (pageOps h.room l)) (o := .fl) (putOps (h.next 0)) e
  exact ⟨h1.1.trans h2.1, h1.2.trans h2.2⟩
set_option maxHeartbeats 1000000 in
theorem home_any {w0 w : World} {p q bm : Nat} {d : D} {h : Hd} {dead : Bool} {R : List (Nat × Obj)} {v : Value} {l : List PageV} (H : StR w0 p q bm d h dead R w) (hv : PgR R v l) (hf : Fit h l)
    (hw : h.Wf) (hs : h.seq < 1000000) (hl : d.late.length + l.length < 900000) :
    Calls Try.prog 43 #[.pointer (some ⟨q, 0, none⟩), v] w fun e w' =>
      e = .returned (.int .i64 (opsE d (homeOps h l))) ∧ ∃ h', (h' = h ∨ h' = h.next 0) ∧ (opsE d (homeOps h l) = 0 → h' = h.next 0) ∧ StR w0 p q bm (d.ops (homeOps h l)) h' dead R w' := by
  have hlen := hv.len
  have HV := Lib.hid hv
  obtain ⟨va, vc, rfl⟩ := hv.open
  clear hv
  have HH := Lib.hid H
  have HF := Lib.hid hf
  have HW := Lib.hid hw
  clear H hf hw
  go_enter Try.func43, Try.ntmps43
  go_wp2_with fail
  go_loopw [13] (fun i wr => ∃ k : Nat, k ≤ l.length ∧ i = .int .i64 k ∧ StR w0 p q bm d h dead R wr) (fun i _ => l.length - (intOf i).toNat)
  case atStart => exact ⟨0, Nat.zero_le _, rfl, HH.out⟩
  case round =>
    clear HH
    obtain ⟨k, hk, rfl, hH⟩ := hrel
    have HH := Lib.hid hH
    clear hH
    by_cases hlt : k < l.length
    · obtain ⟨x, hx⟩ : ∃ x, l[k]? = some x := ⟨_, List.getElem?_eq_getElem hlt⟩
      obtain ⟨g, cap, hvv, hc⟩ := HV.out.cells hx
      cases hvv
      obtain ⟨e0, e1⟩ := hc wr (fun y hy => HH.out.mem hy)
      obtain ⟨f0, f1, f2⟩ := HF.out x (List.mem_of_getElem? hx)
      clear hc hx
      go_wp2_with fail
      have hq0 := heap_alloc_new wr (.cells #[.int .i64 x.at_, .string x.data] 49)
      have hbp : Below wr.heap.size wr (wr.alloc (.cells #[.int .i64 x.at_, .string x.data] 49)) := by go_grown
      have HH1 := HH.out.on hbp
      generalize wr.alloc (.cells #[.int .i64 x.at_, .string x.data] 49) = W3 at *
      have m0 : W3.cell? ⟨wr.heap.size, 0, none⟩ = some (.int .i64 x.at_) := by rw [cell_of_row _ _ _ _ _ _ hq0]; rfl
      have g0 : ∀ d os, (grow (redrawn W3 d) os).cell? ⟨wr.heap.size, 0, none⟩ = some (.int .i64 x.at_) := fun d os => cell_regrown m0 d os
      have cL : ∀ d os, Calls Try.prog 23 #[.pointer (some ⟨q, 0, none⟩)] (grow (redrawn W3 d) os) fun e w'' => e = .returned (.int .i64 h.pages) ∧ ∃ p : Regrown, w'' = grow (redrawn W3 p.d) p.os := fun d os => Calls.regrown_of ((slen_any _ q p bm h dead (HH1.on (below_regrown W3 d os)).at).mono (by rintro e w' ⟨rfl, rfl⟩; exact ⟨rfl, Below.refl _ _⟩))
      have CL := Lib.hid cL
      have HH3 := Lib.hid HH1
      have hge : decide ((h.pages : Int) ≤ x.at_) = false := by simpa using f1
      clear m0 hq0 hbp HH1 cL e0 e1
      refine wp_region_quiet_below (by kernel_rfl) (by kernel_rfl) ?_
      repeat (go_big_quiet_step (with_reducible exact CL.out _ _))
      refine wpQuiet_nil ?_
      intro _ hw'
      obtain ⟨⟨dq, osq⟩, hw''⟩ := hw'
      subst hw''
      have HH4 := Lib.hid (HH3.out.on (below_regrown W3 dq osq))
      generalize grow (redrawn W3 dq) osq = W4 at *
      clear HH3 CL g0
      go_wp2
      go_roundw
      case rel => exact ⟨k + 1, by omega, by go_num, HH4.out⟩
      case measure => simp [intOf]; omega
    · obtain rfl : k = l.length := by omega
      go_wp2_with fail
      have h00 : d.ops (pageOps h.room (l.take 0)) = d ∧ opsE d (pageOps h.room (l.take 0)) = 0 := ⟨rfl, rfl⟩
      have HH0 : Hid (StR w0 p q bm (d.ops (pageOps h.room (l.take 0))) h dead R wr) := HH
      go_loopw [25] (fun i wr => ∃ k : Nat, k ≤ l.length ∧ i = .int .i64 k ∧ opsE d (pageOps h.room (l.take k)) = 0 ∧ StR w0 p q bm (d.ops (pageOps h.room (l.take k))) h dead R wr) (fun i _ => l.length - (intOf i).toNat)
      case atStart => exact ⟨0, Nat.zero_le _, rfl, h00.2, HH0.out⟩
      case round =>
        clear HH HH0 h00
        obtain ⟨k, hk, rfl, hE, hH⟩ := hrel
        have HH := Lib.hid hH
        have HE := Lib.hid hE
        clear hH hE
        by_cases hlt : k < l.length
        · obtain ⟨x, hx⟩ : ∃ x, l[k]? = some x := ⟨_, List.getElem?_eq_getElem hlt⟩
          obtain ⟨g, cap, hvv, hc⟩ := HV.out.cells hx
          cases hvv
          obtain ⟨e0, e1⟩ := hc _ (fun y hy => HH.out.mem hy)
          obtain ⟨f0, f1, f2⟩ := HF.out x (List.mem_of_getElem? hx)
          have hx2 : l.take (k + 1) = l.take k ++ [x] := by rw [List.take_add_one, hx]; rfl
          have HT := Lib.hid hx2
          have HSP := Lib.hid (home_split h hx)
          clear hc hx hx2
          go_wp2_with fail
          have hq0 := heap_alloc_new wr (.cells #[.int .i64 x.at_, .string x.data] 49)
          have hbp : Below wr.heap.size wr (wr.alloc (.cells #[.int .i64 x.at_, .string x.data] 49)) := by go_grown
          have HH1 := HH.out.on hbp
          generalize wr.alloc (.cells #[.int .i64 x.at_, .string x.data] 49) = W3 at *
          have m0 : W3.cell? ⟨wr.heap.size, 0, none⟩ = some (.int .i64 x.at_) := by rw [cell_of_row _ _ _ _ _ _ hq0]; rfl
          have m1 : W3.cell? ⟨wr.heap.size, 1, none⟩ = some (.string x.data) := by rw [cell_of_row _ _ _ _ _ _ hq0]; rfl
          obtain ⟨c0, c1, c2, c3, c4, c5, c6⟩ := store_cells HH1.at
          have hwr := HW.out.room
          have hwp := HW.out.pages
          have hol := ops_late (pageOps h.room (l.take k)) d
          have hpl : (pageOps h.room (l.take k)).length ≤ l.length := by unfold pageOps; rw [List.length_map, List.length_take]; omega
          have CP := Lib.hid (fun (w1 : World) (b : Below W3.heap.size W3 w1) => place_any w1 q p bm h dead x.at_ (HH1.on b).at hwr f0 (by omega))
          obtain ⟨kk, hkk⟩ : ∃ kk : Int, kk = (2 + h.room : Nat) + x.at_ := ⟨_, rfl⟩
          have CW := Lib.hid (fun (w1 : World) (b : Below W3.heap.size W3 w1) => q_write (HH1.on b).own kk x.data (by omega) (by omega) (by omega))
          have HS := Lib.hid HH1
          rw [← hkk] at CP
          have HKK := Lib.hid hkk
          have EOK := Lib.hid (fun (e : opE (d.ops (pageOps h.room (l.take k))) (.wr kk x.data) = 0) => ops_step_ok (.wr kk x.data) HE.out e)
          have EER := Lib.hid (fun (e : opE (d.ops (pageOps h.room (l.take k))) (.wr kk x.data) ≠ 0) b => ops_step_err (.wr kk x.data) b HE.out e)
          generalize hd2 : d.ops (pageOps h.room (l.take k)) = d2 at *
          clear hq0 hbp HH1 e0 e1 hol hpl hkk hwr hwp f0 f1 f2 HE
          have HD2 := Lib.hid hd2
          clear hd2
          go_region_law (first
            | (go_simp; (with_reducible refine (CP.out _ (by go_grown)).mono ?_); rintro e _ ⟨rfl, rfl⟩)
            | (go_simp; (with_reducible refine (CW.out _ (by go_grown)).mono ?_); rintro e w5 ⟨rfl, H5⟩; have HH5 := Lib.hid (HS.out.ops H5); clear H5)
            | fail)
          all_goals
            by_cases z : writeE d2 kk x.data = 0
            · have HO := Lib.hid (EOK.out z)
              rw [z]
              clear z
              go_wp2
              go_roundw
              case rel => exact ⟨k + 1, by omega, by go_num, by rw [HT.out, pageOps_snoc, ← HKK.out]; exact HO.out.2, by rw [HT.out, pageOps_snoc, ← HKK.out, HO.out.1]; exact HH5.out⟩
              case measure => simp [intOf]; omega
            · have HO := Lib.hid (EER.out z)
              have hz : (writeE d2 kk x.data == 0) = false := by simpa using z
              have HZ := Lib.hid z
              clear z
              go_wp2
              go_returns
              obtain ⟨b, hb⟩ := HSP.out
              rw [← HKK.out] at hb
              obtain ⟨o1, o2⟩ := HO.out b
              rw [hb]
              exact ⟨ret_i o2.symm, h, .inl rfl, fun e => absurd (o2.symm.trans e) HZ.out, by rw [o1]; exact HH5.out⟩
        · obtain rfl : k = l.length := by omega
          rw [List.take_length] at HH HE
          obtain ⟨c0, c1, c2, c3, c4, c5, c6⟩ := store_cells HH.out.at
          have hol := ops_late (pageOps h.room l) d
          have hpl : (pageOps h.room l).length = l.length := by unfold pageOps; rw [List.length_map]
          have hlt2 : (d.ops (pageOps h.room l)).late.length < 950000 := by omega
          have CF := Lib.hid (q_flush HH.out.own (by omega))
          have hol2 := op_late (d.ops (pageOps h.room l)) .fl
          have hlt3 : (d.ops (pageOps h.room l)).flush.late.length < 960000 := by
            have e : (d.ops (pageOps h.room l)).op .fl = (d.ops (pageOps h.room l)).flush := rfl
            rw [e] at hol2
            omega
          clear hol hpl hol2
          go_wp2_with fail
          refine CF.out.mono ?_
          rintro e w3 ⟨rfl, H3⟩
          have H4 := Lib.hid (HH.out.ops H3)
          clear H3 CF c0 c1 c2 c3 c4 c5 c6
          by_cases z : flushE (d.ops (pageOps h.room l)) = 0
          · have HO := Lib.hid (home_end_ok HE.out z)
            rw [z]
            clear z
            go_wp2_with fail
            refine (next_any' H4.out 0 HW.out hs (by omega) (by omega)).mono ?_
            rintro e w4 ⟨rfl, H5⟩
            have H6 := Lib.hid H5
            clear H5
            go_wp2
            go_returns
            obtain ⟨o1, o2⟩ := HO.out
            exact ⟨ret_i o2.symm, h.next 0, .inr rfl, fun _ => rfl, by rw [o1]; exact H6.out⟩
          · have HO := Lib.hid (home_end_err HE.out z)
            have hz : (flushE (d.ops (pageOps h.room l)) == 0) = false := by simpa using z
            have HZ := Lib.hid z
            clear z
            go_wp2
            go_returns
            obtain ⟨o1, o2⟩ := HO.out
            exact ⟨ret_i o2.symm, h, .inl rfl, fun e => absurd (o2.symm.trans e) HZ.out, by rw [o1]; exact H4.out⟩
end Go.Proofs.Ytfcicpcpdklceaa
