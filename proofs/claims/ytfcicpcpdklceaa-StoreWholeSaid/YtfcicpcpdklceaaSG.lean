/- Package store: Read, Write, Back. -/
import Derived.Test.YtfcicpcpdklceaaSF
namespace Go.Proofs.Ytfcicpcpdklceaa
set_option maxRecDepth 100000
open Go.ChangeShapes Go.WideShapes Go.ChangeAt Go.RowKit Go.PlainAid Go.ChangeMaps Go.MapKept
open Go.Sort (grow)

theorem loadS_page (v : Value) : Instr.loadAt 83 v = loadS 83 v := rfl
theorem storeS_page (p v : Value) : Instr.storeAt 83 p v = storeS 83 p v := rfl
attribute [local go_sem ↓ high] loadS_page storeS_page
theorem size_page : (Try.prog.info? 83).map (·.size) = some 256 := by kernel_rfl
theorem zero_cells : zero256 = (textCells 256 zeroText).toArray := by
  unfold zero256 textCells
  apply Array.ext'
  simp only [Array.toList_replicate]
  rw [show (fun j => Value.int IntKind.u8 (bt zeroText j)) = fun _ => Value.int IntKind.u8 0 from funext fun j => by rw [zeroText_bt]]
  rw [List.map_const', List.length_range]
theorem storeS_new_page (w : World) (s : ByteArray) : (storeS 83 (.pointer (some ⟨w.heap.size, 0, none⟩)) (.agg (textCells 256 s).toArray)).run Try.prog (w.alloc (.cells zero256 83)) = .ok () (w.alloc (.cells (textCells 256 s).toArray 83)) := by
  have hr := run_storeVar_row (P := Try.prog) (w.alloc (.cells zero256 83)) w.heap.size 83 83 zero256 (textCells 256 s).toArray (heap_alloc_new w _) (by rw [size_page]; simp) (by simp [zero256]) (all_oneCell_toArray (textCells_one 256 s))
  rw [setRow_alloc] at hr
  exact hr
theorem conv_page {w : World} {g : Nat} {s : ByteArray} (hs : s.size = 256) (h : w.heap[g]? = some (.cells (textCells 256 s).toArray 83 (0, 0))) :
    (convert 78 9 (.slice (some ⟨g, 0, none⟩) 256 256)).run Try.prog w = .ok (.string s) w :=
  conv_text 78 5 9 Try.underlying78 Try.underlying5 Try.underlying9 w g 0 256 256 s hs (rangeAt_whole h)
/-- A page, as the transaction has it, else as the disk has it. -/
def pageS (d : D) (h : Hd) (T : Int → Option ByteArray) (k : Int) : ByteArray := match T k with
  | some s => s
  | none => d.last ((2 + h.room : Nat) + k).toNat
set_option maxHeartbeats 1000000 in
theorem sread_no (w : World) (v : Value) (k : Int) (h : NoStore w v) :
    Calls Try.prog 21 #[v, .int .i64 k] w fun e w' => e = .returned (.tuple #[.string ⟨#[]⟩, .int .i64 3]) ∧ w = w' := by
  go_enter Try.func21, Try.ntmps21
  go_wp2_with fail
  refine (sreach_no _ v k h).mono ?_
  rintro e _ ⟨rfl, rfl⟩
  go_wp2
  go_returns
  exact ⟨rfl, rfl⟩
/-- .. of a page that is there, of a store that lives: as the transaction has it. -/
theorem sread_tx {w0 w : World} {p q bm c : Nat} {d : D} {h : Hd} {T : Int → Option ByteArray} {R : List (Nat × Obj)} (H : StT w0 p q bm c d h T false R w) (k : Int) (hk0 : 0 ≤ k) (hk1 : k < h.pages) (hw : h.Wf) (s : ByteArray) (hT : T k = some s) :
    Calls Try.prog 21 #[.pointer (some ⟨q, 0, none⟩), .int .i64 k] w fun e w' => e = .returned (.tuple #[.string s, .int .i64 0]) ∧ StT w0 p q bm c d h T false R w' ∧ Keeps (fun j => j = q) w w' := by
  have HS0 := Lib.hid H
  have hp := hw.pages
  have hR := sreach_any w q p bm h false k H.at (by omega) (by omega)
  have hr0 : sreachE h false k = 0 := by unfold sreachE; rw [if_neg (by decide), if_neg (by omega)]
  rw [hr0] at hR
  obtain ⟨c0, c1, c2, c3, c4, c5, c6⟩ := store_cells H.at
  obtain ⟨⟨es, clock, hX, hS⟩, _, _⟩ := H
  have hbm := hS.mem (x := (bm, .map es clock)) List.mem_cons_self
  rcases hX.look hbm k (by omega) (by omega) with ⟨hn, _⟩ | ⟨t, ht, hts, hl⟩
  · rw [hn] at hT; cases hT
  · obtain rfl : t = s := by rw [ht] at hT; simpa using hT
    have hl1 := hl true
    rw [if_pos rfl] at hl1
    have hst := storeS_new_page w t
    have hcv := conv_page hts (heap_alloc_new w (.cells (textCells 256 t).toArray 83))
    have hbl : Below w.heap.size w (w.alloc (.cells (textCells 256 t).toArray 83)) := by go_grown
    have HB := Lib.hid hbl
    have HR := Lib.hid hR
    unfold pgV at hl1
    generalize (textCells 256 t).toArray = cs at *
    generalize hz : zero256 = zs at *
    have zp := zero_page
    rw [hz] at zp
    clear hl hT ht hX hS hbm hbl hR hr0 hz
    go_enter Try.func21, Try.ntmps21
    go_wp2_with fail
    refine HR.out.mono ?_
    rintro e _ ⟨rfl, rfl⟩
    go_wp2
    go_returns
    exact ⟨rfl, HS0.out.on HB.out, Keeps.of_below HB.out⟩
/-- The store's last cell is written as it is. -/
theorem StT.setDead {w0 w : World} {p q bm c : Nat} {d : D} {h : Hd} {T : Int → Option ByteArray} {dead : Bool} {R : List (Nat × Obj)} (H : StT w0 p q bm c d h T dead R w) (x : Bool) : StT w0 p q bm c d h T x R (w.setCell ⟨q, 6, none⟩ (.bool x)) := by
  obtain ⟨⟨es, clock, hX, hS⟩, h1, h2⟩ := H
  exact ⟨⟨es, clock, hX, hS.set 6 (.bool x) h x rfl⟩, h1, h2⟩
set_option maxHeartbeats 1000000 in
/-- .. as the disk has it. -/
theorem sread_disk {w0 w : World} {p q bm c : Nat} {d : D} {h : Hd} {T : Int → Option ByteArray} {R : List (Nat × Obj)} (H : StT w0 p q bm c d h T false R w) (k : Int) (hk0 : 0 ≤ k) (hk1 : k < h.pages) (hw : h.Wf) (hd : d.dark = false) (hn : 2 + h.room + h.pages ≤ d.n) (hT : T k = none) :
    Calls Try.prog 21 #[.pointer (some ⟨q, 0, none⟩), .int .i64 k] w fun e w' => e = .returned (.tuple #[.string (d.last ((2 + h.room : Nat) + k).toNat), .int .i64 0]) ∧ StT w0 p q bm c d h T false R w' ∧ Keeps (fun j => j = q) w w' := by
  have HS0 := Lib.hid H
  have hp := hw.pages
  have hr := hw.room
  have hR := sreach_any w q p bm h false k H.at (by omega) (by omega)
  have hr0 : sreachE h false k = 0 := by unfold sreachE; rw [if_neg (by decide), if_neg (by omega)]
  rw [hr0] at hR
  obtain ⟨c0, c1, c2, c3, c4, c5, c6⟩ := store_cells H.at
  obtain ⟨⟨es, clock, hX, hS⟩, _, _⟩ := H
  have hbm := hS.mem (x := (bm, .map es clock)) List.mem_cons_self
  rcases hX.look hbm k (by omega) (by omega) with ⟨_, hl⟩ | ⟨t, ht, _⟩
  · have hl1 := hl true
    rw [if_pos rfl] at hl1
    have hst := storeS_new_page w zeroText
    rw [← zero_cells] at hst
    have hbl : Below w.heap.size w (w.alloc (.cells zero256 83)) := by go_grown
    have HB := Lib.hid hbl
    have HR := Lib.hid hR
    generalize hz : zero256 = zs at *
    have zp := zero_page
    rw [hz] at zp
    obtain ⟨kk, hkk⟩ : ∃ kk : Int, kk = (2 + h.room : Nat) + k := ⟨_, rfl⟩
    have hk2 : 0 ≤ kk ∧ kk < d.n := by omega
    have CP := Lib.hid (fun (w1 : World) (b : Below w.heap.size w w1) => place_any w1 q p bm h false k (HS0.out.on b).at hr hk0 (by omega))
    rw [← hkk] at CP ⊢
    have hre : reachE d kk = 0 := by unfold reachE; rw [hd, if_neg (by decide), if_neg (by omega)]
    have hrs : readS d kk = d.last kk.toNat := by unfold readS; rw [hre, if_pos rfl]
    have hnn := HS0.out.own.wf.hi
    have CR := Lib.hid (fun (w1 : World) (b : Below w.heap.size w w1) => q_read (HS0.out.on b).own kk (by omega) (by omega))
    rw [hre, hrs] at CR
    clear hl hT hX hS hbm hbl hR hr0 hz hkk hre hrs
    go_enter Try.func21, Try.ntmps21
    go_wp2_with fail
    refine HR.out.mono ?_
    rintro e _ ⟨rfl, rfl⟩
    go_wp2_with fail
    have HS1 := Lib.hid (HS0.out.on HB.out)
    generalize w.alloc (.cells zs 83) = W1 at *
    clear c0 c1 c2 c3 c4 c5 c6
    obtain ⟨c0, c1, c2, c3, c4, c5, c6⟩ := store_cells HS1.out.at
    go_region_law (first
      | (go_simp; (with_reducible refine (CP.out _ (HB.out.on (by go_grown))).mono ?_); rintro e _ ⟨rfl, rfl⟩)
      | (go_simp; (with_reducible refine (CR.out _ (HB.out.on (by go_grown))).mono ?_); rintro e _ ⟨rfl, rfl⟩)
      | fail)
    all_goals
      have HS2 := Lib.hid (HS1.out.on (show Below W1.heap.size W1 W1.drew by go_grown))
      have HB2 := Lib.hid (HB.out.on (show Below W1.heap.size W1 W1.drew by go_grown))
      generalize W1.drew = W2 at *
      have t6 := store_thaw HS2.out.at 6
      obtain ⟨c0, c1, c2, c3, c4, c5, c6⟩ := store_cells HS2.out.at
      go_wp2
      go_returns
      exact ⟨rfl, HS2.out.setDead false, Keeps.setCell (own := fun j => j = q) (Keeps.of_below HB2.out) (.inl rfl) _⟩
  · rw [ht] at hT; cases hT
theorem sread_any {w0 w : World} {p q bm c : Nat} {d : D} {h : Hd} {T : Int → Option ByteArray} {R : List (Nat × Obj)} (H : StT w0 p q bm c d h T false R w) (k : Int) (hk0 : 0 ≤ k) (hk1 : k < h.pages) (hw : h.Wf) (hd : d.dark = false) (hn : 2 + h.room + h.pages ≤ d.n) :
    Calls Try.prog 21 #[.pointer (some ⟨q, 0, none⟩), .int .i64 k] w fun e w' => e = .returned (.tuple #[.string (pageS d h T k), .int .i64 0]) ∧ StT w0 p q bm c d h T false R w' ∧ Keeps (fun j => j = q) w w' := by
  cases hT : T k with
  | none =>
    have e : pageS d h T k = d.last ((2 + h.room : Nat) + k).toNat := by unfold pageS; rw [hT]
    rw [e]
    exact sread_disk H k hk0 hk1 hw hd hn hT
  | some s =>
    have e : pageS d h T k = s := by unfold pageS; rw [hT]
    rw [e]
    exact sread_tx H k hk0 hk1 hw s hT
end Go.Proofs.Ytfcicpcpdklceaa
