import Derived.Test.YtcjfnfdinhbdlaaGreatDoorGar
import Derived.Test.YtcjfnfdinhbdlaaGreatDoorGaz
namespace Go.Proofs.YtcjfnfdinhbdlaaGreatDoor
set_option maxRecDepth 100000
open Go.ChangeShapes Go.WideShapes Go.ChangeAt Go.RowKit Go.PlainAid Go.ChangeMaps Go.MapKept
open Go.Sort (grow)
theorem loadS_page (v : Value) : Instr.loadAt 207 v = loadS 207 v := rfl
theorem storeS_page (p v : Value) : Instr.storeAt 207 p v = storeS 207 p v := rfl
attribute [local go_sem ↓ high] loadS_page storeS_page
theorem size_page : (Tryz.prog.info? 207).map (·.size) = some 256 := by kernel_rfl
theorem zero_cells : zero256 = (textCells 256 zeroText).toArray := by
  unfold zero256 textCells
  apply Array.ext'
  simp only [Array.toList_replicate]
  rw [show (fun j => Value.int IntKind.u8 (bt zeroText j)) = fun _ => Value.int IntKind.u8 0 from funext fun j => by rw [zeroText_bt]]
  rw [List.map_const', List.length_range]
theorem storeS_new_page (w : World) (s : ByteArray) : (storeS 207 (.pointer (some ⟨w.heap.size, 0, none⟩)) (.agg (textCells 256 s).toArray)).run Tryz.prog (w.alloc (.cells zero256 207)) = .ok () (w.alloc (.cells (textCells 256 s).toArray 207)) := by
  have hr := run_storeVar_row (P := Tryz.prog) (w.alloc (.cells zero256 207)) w.heap.size 207 207 zero256 (textCells 256 s).toArray (heap_alloc_new w _) (by rw [size_page]; simp) (by simp [zero256]) (all_oneCell_toArray (textCells_one 256 s))
  rw [setRow_alloc] at hr
  exact hr
theorem conv_page {w : World} {g : Nat} {s : ByteArray} (hs : s.size = 256) (h : w.heap[g]? = some (.cells (textCells 256 s).toArray 207 (0, 0))) :
    (convert 160 9 (.slice (some ⟨g, 0, none⟩) 256 256)).run Tryz.prog w = .ok (.string s) w :=
  conv_text 160 5 9 Tryz.underlying160 Tryz.underlying5 Tryz.underlying9 w g 0 256 256 s hs (rangeAt_whole h)
def pageS (d : D) (h : Hd) (T : Int → Option ByteArray) (k : Int) : ByteArray := match T k with
  | some s => s
  | none => d.last ((2 + h.room : Nat) + k).toNat
theorem sread_tx {w0 w : World} {p q bm c : Nat} {d : D} {h : Hd} {T : Int → Option ByteArray} {R : List (Nat × Obj)} (H : StT w0 p q bm c d h T false R w) (k : Int) (hk0 : 0 ≤ k) (hk1 : k < h.pages) (hw : h.Wf) (s : ByteArray) (hT : T k = some s) :
    Calls Tryz.prog 85 #[.pointer (some ⟨q, 0, none⟩), .int .i64 k] w fun e w' => e = .returned (.tuple #[.string s, .int .i64 0]) ∧ StT w0 p q bm c d h T false R w' ∧ Keeps (fun j => j = q) w w' := by
  have HS0 := Lib.hid H
  have hp := hw.pages
  have hR := sreach_any w q p bm h false k H.at (by omega) (by omega)
  have hr0 : sreachE h false k = 0 := by unfold sreachE; rw [if_neg (by decide), if_neg (by omega)]
  rw [hr0] at hR
  obtain ⟨c0, c1, c2, c3, c4, c5, c6⟩ := store_cells H.at
  obtain ⟨⟨es, clock, hX, hS⟩, _, _⟩ := H
  have hbm := hS.mem (x := (bm, .map es clock)) List.mem_cons_self
  rcases hX.look hbm k (by omega) (by omega) with ⟨hn, _⟩ | ⟨t, ht, hts, hl⟩
  · rw [hn] at hT; cases hT
  · obtain rfl : t = s := by rw [ht] at hT; simpa using hT
    have hl1 := hl true
    rw [if_pos rfl] at hl1
    have hst := storeS_new_page w t
    have hcv := conv_page hts (heap_alloc_new w (.cells (textCells 256 t).toArray 207))
    have hbl : Below w.heap.size w (w.alloc (.cells (textCells 256 t).toArray 207)) := by go_grown
    have HB := Lib.hid hbl
    have HR := Lib.hid hR
    unfold pgV at hl1
    generalize (textCells 256 t).toArray = cs at *
    generalize hz : zero256 = zs at *
    have zp := zero_page
    rw [hz] at zp
    clear hl hT ht hX hS hbm hbl hR hr0 hz
    go_enter Tryz.func85, Tryz.ntmps85
    go_wp2_with fail
    refine HR.out.mono ?_
    rintro e _ ⟨rfl, rfl⟩
    go_wp2
    go_returns
    exact ⟨rfl, HS0.out.on HB.out, Keeps.of_below HB.out⟩
theorem StT.setDead {w0 w : World} {p q bm c : Nat} {d : D} {h : Hd} {T : Int → Option ByteArray} {dead : Bool} {R : List (Nat × Obj)} (H : StT w0 p q bm c d h T dead R w) (x : Bool) : StT w0 p q bm c d h T x R (w.setCell ⟨q, 6, none⟩ (.bool x)) := by
  obtain ⟨⟨es, clock, hX, hS⟩, h1, h2⟩ := H
  exact ⟨⟨es, clock, hX, hS.set 6 (.bool x) h x rfl⟩, h1, h2⟩
set_option maxHeartbeats 1000000 in
/-- .. as the disk has it. -/
theorem sread_disk {w0 w : World} {p q bm c : Nat} {d : D} {h : Hd} {T : Int → Option ByteArray} {R : List (Nat × Obj)} (H : StT w0 p q bm c d h T false R w) (k : Int) (hk0 : 0 ≤ k) (hk1 : k < h.pages) (hw : h.Wf) (hd : d.dark = false) (hn : 2 + h.room + h.pages ≤ d.n) (hT : T k = none) :
    Calls Tryz.prog 85 #[.pointer (some ⟨q, 0, none⟩), .int .i64 k] w fun e w' => e = .returned (.tuple #[.string (d.last ((2 + h.room : Nat) + k).toNat), .int .i64 0]) ∧ StT w0 p q bm c d h T false R w' ∧ Keeps (fun j => j = q) w w' := by
  have HS0 := Lib.hid H
  have hp := hw.pages
  have hr := hw.room
  have hR := sreach_any w q p bm h false k H.at (by omega) (by omega)
  have hr0 : sreachE h false k = 0 := by unfold sreachE; rw [if_neg (by decide), if_neg (by omega)]
  rw [hr0] at hR
  obtain ⟨c0, c1, c2, c3, c4, c5, c6⟩ := store_cells H.at
  obtain ⟨⟨es, clock, hX, hS⟩, _, _⟩ := H
  have hbm := hS.mem (x := (bm, .map es clock)) List.mem_cons_self
  rcases hX.look hbm k (by omega) (by omega) with ⟨_, hl⟩ | ⟨t, ht, _⟩
  · have hl1 := hl true
    rw [if_pos rfl] at hl1
    have hst := storeS_new_page w zeroText
    rw [← zero_cells] at hst
    have hbl : Below w.heap.size w (w.alloc (.cells zero256 207)) := by go_grown
    have HB := Lib.hid hbl
    have HR := Lib.hid hR
    generalize hz : zero256 = zs at *
    have zp := zero_page
    rw [hz] at zp
    obtain ⟨kk, hkk⟩ : ∃ kk : Int, kk = (2 + h.room : Nat) + k := ⟨_, rfl⟩
    have hk2 : 0 ≤ kk ∧ kk < d.n := by omega
    have CP := Lib.hid (fun (w1 : World) (b : Below w.heap.size w w1) => place_any w1 q p bm h false k (HS0.out.on b).at hr hk0 (by omega))
    rw [← hkk] at CP ⊢
    have hre : reachE d kk = 0 := by unfold reachE; rw [hd, if_neg (by decide), if_neg (by omega)]
    have hrs : readS d kk = d.last kk.toNat := by unfold readS; rw [hre, if_pos rfl]
    have hnn := HS0.out.own.wf.hi
    have CR := Lib.hid (fun (w1 : World) (b : Below w.heap.size w w1) => q_read (HS0.out.on b).own kk (by omega) (by omega))
    rw [hre, hrs] at CR
    clear hl hT hX hS hbm hbl hR hr0 hz hkk hre hrs
    go_enter Tryz.func85, Tryz.ntmps85
    go_wp2_with fail
    refine HR.out.mono ?_
    rintro e _ ⟨rfl, rfl⟩
    go_wp2_with fail
    have HS1 := Lib.hid (HS0.out.on HB.out)
    generalize w.alloc (.cells zs 207) = W1 at *
    clear c0 c1 c2 c3 c4 c5 c6
    obtain ⟨c0, c1, c2, c3, c4, c5, c6⟩ := store_cells HS1.out.at
    go_region_law (first
      | (go_simp; (with_reducible refine (CP.out _ (HB.out.on (by go_grown))).mono ?_); rintro e _ ⟨rfl, rfl⟩)
      | (go_simp; (with_reducible refine (CR.out _ (HB.out.on (by go_grown))).mono ?_); rintro e _ ⟨rfl, rfl⟩)
      | fail)
    all_goals
      have HS2 := Lib.hid (HS1.out.on (show Below W1.heap.size W1 W1.drew by go_grown))
      have HB2 := Lib.hid (HB.out.on (show Below W1.heap.size W1 W1.drew by go_grown))
      generalize W1.drew = W2 at *
      have t6 := store_thaw HS2.out.at 6
      obtain ⟨c0, c1, c2, c3, c4, c5, c6⟩ := store_cells HS2.out.at
      go_wp2
      go_returns
      exact ⟨rfl, HS2.out.setDead false, Keeps.setCell (own := fun j => j = q) (Keeps.of_below HB2.out) (.inl rfl) _⟩
  · rw [ht] at hT; cases hT
theorem sread_any {w0 w : World} {p q bm c : Nat} {d : D} {h : Hd} {T : Int → Option ByteArray} {R : List (Nat × Obj)} (H : StT w0 p q bm c d h T false R w) (k : Int) (hk0 : 0 ≤ k) (hk1 : k < h.pages) (hw : h.Wf) (hd : d.dark = false) (hn : 2 + h.room + h.pages ≤ d.n) :
    Calls Tryz.prog 85 #[.pointer (some ⟨q, 0, none⟩), .int .i64 k] w fun e w' => e = .returned (.tuple #[.string (pageS d h T k), .int .i64 0]) ∧ StT w0 p q bm c d h T false R w' ∧ Keeps (fun j => j = q) w w' := by
  cases hT : T k with
  | none =>
    have e : pageS d h T k = d.last ((2 + h.room : Nat) + k).toNat := by unfold pageS; rw [hT]
    rw [e]
    exact sread_disk H k hk0 hk1 hw hd hn hT
  | some s =>
    have e : pageS d h T k = s := by unfold pageS; rw [hT]
    rw [e]
    exact sread_tx H k hk0 hk1 hw s hT
end Go.Proofs.YtcjfnfdinhbdlaaGreatDoor
namespace Go.Proofs.YtcjfnfdinhbdlaaGreatDoor
set_option maxRecDepth 100000
open Go.ChangeShapes Go.WideShapes Go.ChangeAt Go.RowKit Go.PlainAid Go.ChangeMaps Go.MapKept
open Go.Sort (grow)
attribute [local go_sem ↓ high] loadS_page storeS_page
theorem loadS_pg {w : World} {g o : Nat} {s : ByteArray} (h : w.rangeAt g o (textCells 256 s)) : (loadS 207 (.pointer (some ⟨g, o, none⟩))).run Tryz.prog w = .ok (.agg (textCells 256 s).toArray) w :=
  loadMany_range (P := Tryz.prog) (t := 207) (textCells 256 s) (.array 256 5) h Tryz.underlying207 rfl (by rw [size_page, length_textCells])
theorem TxIs.mono {es : Array MapEntry} {clock c c' : Nat} {T : Int → Option ByteArray} (h : TxIs es clock c T) (hc : c ≤ c') : TxIs es clock c' T := ⟨h.fit, Nat.le_trans h.size hc, h.has, h.get⟩
theorem StT.mono {w0 w : World} {p q bm c c' : Nat} {d : D} {h : Hd} {T : Int → Option ByteArray} {dead : Bool} {R : List (Nat × Obj)} (H : StT w0 p q bm c d h T dead R w) (hc : c ≤ c') : StT w0 p q bm c' d h T dead R w := by
  obtain ⟨⟨es, clock, hX, hS⟩, h1, h2⟩ := H
  exact ⟨⟨es, clock, hX.mono hc, hS⟩, h1, h2⟩
theorem StT.newMap {w0 w : World} {p q bm c' : Nat} {d : D} {h : Hd} {T' : Int → Option ByteArray} {dead : Bool} {R : List (Nat × Obj)} {es es' : Array MapEntry} {clock clock' : Nat}
    (hS : StR w0 p q bm d h dead ((bm, .map es clock) :: R) w) (h1 : w0.heap.size ≤ bm) (h2 : ∀ x ∈ R, x.1 ≠ bm) (hX : TxIs es' clock' c' T') : StT w0 p q bm c' d h T' dead R (setBlock w bm (.map es' clock')) := by
  have hne : bm ≠ q := hS.ne _ List.mem_cons_self
  refine ⟨⟨es', clock', hX, ⟨hS.own.block (es := es) (clock := clock) (b := bm) (by simp) h1 _ _ (fun x hx => ?_), hS.lo, fun x hx => ?_⟩⟩, h1, h2⟩
  · simp only [List.mem_cons] at hx ⊢
    rcases hx with rfl | rfl | hx
    · exact .inr ⟨.inl rfl, fun e => hne e.symm⟩
    · exact .inl rfl
    · exact .inr ⟨.inr (.inr hx), h2 x hx⟩
  · rcases List.mem_cons.1 hx with rfl | hx
    · exact hne
    · exact hS.ne x (List.mem_cons_of_mem _ hx)
theorem keeps_block {w w' : World} {b : Nat} {es : Array MapEntry} {clock : Nat} (h : Keeps (fun j => j = b) w w') (hb : w'.heap[b]? = some (.map es clock)) (o : Obj) : Keeps (fun j => j = b) w (setBlock w' b o) := by
  refine ⟨h.os, h.tape, h.output, by have := h.size; simp [setBlock]; omega, fun k hk ho => ?_⟩
  exact (heap_setBlock_other hb _ ho).trans (h.block k hk ho)
def swriteE (h : Hd) (k : Int) (s : ByteArray) : Int := if k < 0 ∨ h.pages ≤ k then 10 else if 256 < s.size then 21 else 0
def swriteT (h : Hd) (T : Int → Option ByteArray) (k : Int) (s : ByteArray) : Int → Option ByteArray := if k < 0 ∨ h.pages ≤ k ∨ 256 < s.size then T else put T k (filled s)
set_option maxHeartbeats 1000000 in
theorem swrite_any {w0 w : World} {p q bm c : Nat} {d : D} {h : Hd} {T : Int → Option ByteArray} {R : List (Nat × Obj)} (H : StT w0 p q bm c d h T false R w) (k : Int) (s : ByteArray) (h0 : -9223372036854775808 ≤ k) (h1 : k ≤ 9223372036854775807) (hs : s.size ≤ maxLen) (hc : c < 1000000) :
    Calls Tryz.prog 148 #[.pointer (some ⟨q, 0, none⟩), .int .i64 k, .string s] w fun e w' => e = .returned (.int .i64 (swriteE h k s)) ∧ StT w0 p q bm (c + 1) d h (swriteT h T k s) false R w' ∧ Keeps (fun j => j = bm) w w' := by
  unfold maxLen at hs
  have hR := sreach_any w q p bm h false k H.at h0 h1
  unfold swriteE swriteT
  by_cases hk : k < 0 ∨ h.pages ≤ k
  · have hr0 : sreachE h false k = 10 := by unfold sreachE; rw [if_neg (by decide), if_pos hk]
    rw [hr0] at hR
    rw [if_pos hk, if_pos (by omega)]
    clear hr0
    go_enter Tryz.func148, Tryz.ntmps148
    go_wp2_with fail
    refine hR.mono ?_
    rintro e _ ⟨rfl, rfl⟩
    go_wp2
    go_returns
    exact ⟨rfl, H.mono (Nat.le_succ c), Keeps.refl _ _⟩
  · have hr0 : sreachE h false k = 0 := by unfold sreachE; rw [if_neg (by decide), if_neg hk]
    rw [hr0] at hR
    rw [if_neg hk]
    by_cases hb : 256 < s.size
    · have hb1 : decide ((256 : Int) < (s.size : Int)) = true := by simp; omega
      rw [if_pos hb, if_pos (by omega)]
      clear hr0
      go_enter Tryz.func148, Tryz.ntmps148
      go_wp2_with fail
      refine hR.mono ?_
      rintro e _ ⟨rfl, rfl⟩
      go_wp2
      go_returns
      exact ⟨rfl, H.mono (Nat.le_succ c), Keeps.refl _ _⟩
    · have hb1 : decide ((256 : Int) < (s.size : Int)) = false := by simp; omega
      rw [if_neg hb, if_neg (by omega)]
      have hzero := zero_page
      have hcopy := copy_fill (P := Tryz.prog) w 160 9 3 5 207 s Tryz.underlying160 (by kernel_rfl) (by omega)
      have hbl : Below w.heap.size w (w.alloc (.cells (textCells 256 s).toArray 207)) := by go_grown
      have HB := Lib.hid hbl
      have HS0 := Lib.hid H
      have HR := Lib.hid hR
      have hnew := heap_alloc_new w (.cells (textCells 256 s).toArray 207)
      clear hr0 hR H hbl
      go_enter Tryz.func148, Tryz.ntmps148
      go_wp2_with fail
      refine HR.out.mono ?_
      rintro e _ ⟨rfl, rfl⟩
      go_wp2_with fail
      have HS1 := Lib.hid (HS0.out.on HB.out)
      clear hcopy hzero HS0 HR
      generalize w.alloc (.cells (textCells 256 s).toArray 207) = W1 at *
      obtain ⟨c0, c1, c2, c3, c4, c5, c6⟩ := store_cells HS1.out.at
      have hra := rangeAt_whole hnew
      have ld1 := loadS_pg hra
      have ld2 := loadS_pg (w := W1.drew) hra
      have hbd : Below W1.heap.size W1 W1.drew := by go_grown
      obtain ⟨⟨es, clock, hX, hS⟩, q1, q2⟩ := HS1.out.on hbd
      have hbm : W1.drew.heap[bm]? = some (.map es clock) := hS.mem (x := (bm, .map es clock)) List.mem_cons_self
      obtain ⟨es', clock', hrun, hX'⟩ := hX.put hbm hc k h0 h1 (filled s) (filled_size s)
      unfold pgV at hrun
      rw [textCells_filled] at hrun
      have HF := Lib.hid (StT.newMap hS q1 q2 hX')
      have HK := Lib.hid (keeps_block (es := es) (clock := clock) (Keeps.of_below (own := fun j => j = bm) (HB.out.on hbd)) hbm (.map es' clock'))
      clear hnew hra hX hS q1 q2 hbm hX' hbd HS1 HB
      generalize (textCells 256 s).toArray = cs at *
      generalize setBlock W1.drew bm (.map es' clock') = W3 at *
      go_still_tail 6, (by kernel_rfl)
      change wpList _ _ _ _ _ W1.drew
      generalize W1.drew = W2 at *
      go_wp2
      go_returns
      exact ⟨rfl, HF.out, HK.out⟩
end Go.Proofs.YtcjfnfdinhbdlaaGreatDoor
namespace Go.Proofs.YtcjfnfdinhbdlaaGreatDoor
set_option maxRecDepth 100000
open Go.ChangeShapes Go.WideShapes Go.ChangeAt Go.RowKit Go.PlainAid
def posO (way : Int) (o : OpV) (out : List OpV) : Nat := out.findIdx fun a => !befI (wayI way a) (wayI way o)
theorem posO_le (way : Int) (o : OpV) (out : List OpV) : posO way o out ≤ out.length := List.findIdx_le_length
def insO (way : Int) (o : OpV) (out : List OpV) : List OpV := out.take (posO way o out) ++ o :: out.drop (posO way o out)
def hitO (way : Int) (front : List Int) (o : OpV) : Bool := decide (0 ≤ way ∧ way < 5) && decide (front.length ≤ 4) && begB (wayI way o) front
def rfindL (way : Int) (front : List Int) (l : List OpV) : List OpV := l.foldl (fun out o => if hitO way front o = true then insO way o out else out) []
theorem rfindL_snoc (way : Int) (front : List Int) (l : List OpV) (o : OpV) : rfindL way front (l ++ [o]) = if hitO way front o = true then insO way o (rfindL way front l) else rfindL way front l := by
  unfold rfindL
  rw [List.foldl_append]
  rfl
theorem ins_mem {way : Int} {o a : OpV} {out : List OpV} : a ∈ insO way o out ↔ a = o ∨ a ∈ out := by
  unfold insO
  conv => rhs; rw [← List.take_append_drop (posO way o out) out]
  simp only [List.mem_append, List.mem_cons]
  constructor
  · rintro (h | h | h)
    · exact .inr (.inl h)
    · exact .inl h
    · exact .inr (.inr h)
  · rintro (h | h | h)
    · exact .inr (.inl h)
    · exact .inl h
    · exact .inr (.inr h)
theorem bef_less {way : Int} {a b : OpV} (ha : InI (wayI way a)) (hb : InI (wayI way b)) : befI (wayI way a) (wayI way b) = lessB (wayS way a) (wayS way b) := (key_less _ _ ha hb).symm
def SrtO (way : Int) (L : List OpV) : Prop := Srt (L.map (prW way))
theorem srtO_at {way : Int} {L : List OpV} (h : SrtO way L) {i j : Nat} {a b : OpV} (hij : i < j) (ha : L[i]? = some a) (hb : L[j]? = some b) : lessB (wayS way a) (wayS way b) = true :=
  h i j (prW way a) (prW way b) hij (by rw [List.getElem?_map, ha]; rfl) (by rw [List.getElem?_map, hb]; rfl)
theorem srtO_sub {way : Int} {L M : List OpV} (h : SrtO way L) (hs : M.Sublist L) : SrtO way M := srt_sub h (hs.map _)
theorem srt_ins {way : Int} {o : OpV} {out : List OpV} (hs : SrtO way out) (hi : ∀ a ∈ out, InI (wayI way a)) (ho : InI (wayI way o)) (hn : ∀ a ∈ out, wayS way a ≠ wayS way o) : SrtO way (insO way o out) := by
  have hle := posO_le way o out
  have h1 : ∀ a ∈ out.take (posO way o out), lessB (wayS way a) (wayS way o) = true := fun a ha => by
    obtain ⟨i, hi2⟩ := List.mem_iff_getElem?.1 ha
    rw [List.getElem?_take] at hi2
    split at hi2
    · next h =>
      have hm := List.mem_of_getElem? hi2
      obtain ⟨hl, e⟩ := List.getElem?_eq_some_iff.1 hi2
      have := List.not_of_lt_findIdx (p := fun a => !befI (wayI way a) (wayI way o)) h
      rw [e, bef_less (hi a hm) ho] at this
      simpa using this
    · cases hi2
  have h2 : ∀ a ∈ out.drop (posO way o out), lessB (wayS way o) (wayS way a) = true := fun a ha => by
    have hm := List.mem_of_mem_drop ha
    obtain ⟨i, hi2⟩ := List.mem_iff_getElem?.1 ha
    rw [List.getElem?_drop] at hi2
    have hlt : posO way o out < out.length := by have := (List.getElem?_eq_some_iff.1 hi2).1; omega
    have hf := List.findIdx_getElem (p := fun a => !befI (wayI way a) (wayI way o)) (xs := out) (w := hlt)
    have hfm : out[posO way o out] ∈ out := List.getElem_mem _
    have h3 : lessB (wayS way (out[posO way o out])) (wayS way o) = false := by
      have h4 : (!befI (wayI way (out[posO way o out])) (wayI way o)) = true := hf
      rw [bef_less (hi _ hfm) ho] at h4
      simpa using h4
    have h5 : lessB (wayS way a) (wayS way o) = false := by
      rcases Nat.eq_zero_or_pos i with h0 | h0
      · subst h0
        rw [Nat.add_zero, List.getElem?_eq_getElem hlt] at hi2
        rw [← Option.some.inj hi2]
        exact h3
      · have h6 := srtO_at hs (i := posO way o out) (j := posO way o out + i) (by omega) (List.getElem?_eq_getElem hlt) hi2
        rw [Bool.eq_false_iff]
        intro h7
        have := lessB_trans h6 h7
        rw [h3] at this
        cases this
    cases h8 : lessB (wayS way o) (wayS way a) with
    | true => rfl
    | false => exact absurd (lessB_total h5 h8) (hn a hm)
  unfold SrtO insO
  rw [List.map_append, List.map_cons]
  refine srt_append (srtO_sub hs (List.take_sublist _ _)) (srt_iff.2 ⟨srtO_sub hs (List.drop_sublist _ _), fun q hq => ?_⟩) fun p hp q hq => ?_
  · obtain ⟨a, ha, rfl⟩ := List.mem_map.1 hq
    exact h2 a ha
  · obtain ⟨a, ha, rfl⟩ := List.mem_map.1 hp
    rcases List.mem_cons.1 hq with rfl | hq
    · exact h1 a ha
    · obtain ⟨b, hb, rfl⟩ := List.mem_map.1 hq
      exact lessB_trans (h1 a ha) (h2 b hb)
theorem rfind_ok {way : Int} {front : List Int} : ∀ (l : List OpV), (∀ o ∈ l, checkZ o = 0) → l.Pairwise (fun a b => a.id < b.id) → SrtO way (rfindL way front l) ∧ (∀ o, o ∈ rfindL way front l ↔ o ∈ l ∧ hitO way front o = true) := by
  intro l
  have key : ∀ k, k ≤ l.length → (∀ o ∈ l, checkZ o = 0) → l.Pairwise (fun a b => a.id < b.id) → SrtO way (rfindL way front (l.take k)) ∧ (∀ o, o ∈ rfindL way front (l.take k) ↔ o ∈ l.take k ∧ hitO way front o = true) := by
    intro k
    induction k with
    | zero =>
      intro _ _ _
      rw [List.take_zero]
      exact ⟨srt_nil, fun o => by simp [rfindL]⟩
    | succ k ih =>
      intro hk hc hr
      obtain ⟨i1, i2⟩ := ih (by omega) hc hr
      obtain ⟨o, ho⟩ : ∃ o, l[k]? = some o := ⟨_, List.getElem?_eq_getElem (by omega)⟩
      have hom := List.mem_of_getElem? ho
      have e : l.take (k + 1) = l.take k ++ [o] := by rw [List.take_add_one, ho]; rfl
      rw [e, rfindL_snoc]
      by_cases hh : hitO way front o = true
      · rw [if_pos hh]
        have hne : ∀ a ∈ rfindL way front (l.take k), wayS way a ≠ wayS way o := fun a ha he => by
          have h1 := ((i2 a).1 ha).1
          have h2 := wayS_id (wayI_in (hc a (List.mem_of_mem_take h1)) way) (wayI_in (hc o hom) way) he
          obtain ⟨i, hi⟩ := List.mem_iff_getElem?.1 h1
          rw [List.getElem?_take] at hi
          split at hi
          · next hik =>
            obtain ⟨g1, g2⟩ := List.getElem?_eq_some_iff.1 hi
            obtain ⟨g3, g4⟩ := List.getElem?_eq_some_iff.1 ho
            have := List.pairwise_iff_getElem.1 hr i k g1 g3 hik
            rw [g2, g4] at this
            omega
          · cases hi
        refine ⟨srt_ins i1 (fun a ha => wayI_in (hc a (List.mem_of_mem_take ((i2 a).1 ha).1)) way) (wayI_in (hc o hom) way) hne, fun a => ?_⟩
        rw [ins_mem, i2, List.mem_append, List.mem_singleton]
        constructor
        · rintro (rfl | ⟨h1, h2⟩)
          · exact ⟨.inr rfl, hh⟩
          · exact ⟨.inl h1, h2⟩
        · rintro ⟨h1 | h1, h2⟩
          · exact .inr ⟨h1, h2⟩
          · exact .inl h1
      · rw [if_neg hh]
        refine ⟨i1, fun a => ?_⟩
        rw [i2, List.mem_append, List.mem_singleton]
        constructor
        · rintro ⟨h1, h2⟩
          exact ⟨.inl h1, h2⟩
        · rintro ⟨h1 | h1, h2⟩
          · exact ⟨h1, h2⟩
          · rw [h1] at h2
            exact absurd h2 hh
  intro hc hr
  have := key l.length (Nat.le_refl _) hc hr
  rw [List.take_length] at this
  exact this
theorem ops_ext {way : Int} {l A B : List OpV} (hk : OpsK l) (hA : ∀ o ∈ A, o ∈ l) (hB : ∀ o ∈ B, o ∈ l) (h : A.map (prW way) = B.map (prW way)) : A = B := by
  induction A generalizing B with
  | nil => cases B with
    | nil => rfl
    | cons b B => simp at h
  | cons a A ih => cases B with
    | nil => simp at h
    | cons b B =>
      rw [List.map_cons, List.map_cons, List.cons.injEq] at h
      have ha := hA a List.mem_cons_self
      have hb := hB b List.mem_cons_self
      rw [Hs.same_id TL hk.rise ha hb (wayS_id (hk.inI ha way) (hk.inI hb way) (congrArg Pr.key h.1)), ih (fun o ho => hA o (List.mem_cons_of_mem _ ho)) (fun o ho => hB o (List.mem_cons_of_mem _ ho)) h.2]
theorem find_is {way : Int} {l A : List OpV} {R : List Pr} {front : List Int} (h : IsW way l R) (hk : OpsK l) (hw : 0 ≤ way ∧ way < 5) (hf : front.length ≤ 4) (hi : InI front) (hA : ∀ o ∈ A, o ∈ l) (he : A.map (prW way) = selR (keyS front) (pastS (keyS front)) R) : A = rfindL way front l := by
  obtain ⟨h1, h2⟩ := rfind_ok (way := way) (front := front) l hk.chk hk.rise
  refine ops_ext (way := way) hk hA (fun o ho => ((h2 o).1 ho).1) ?_
  rw [he]
  refine srt_ext (srt_sub h.srt List.filter_sublist) h1 fun p => ?_
  unfold selR
  rw [List.mem_filter, h.mem, List.mem_map]
  constructor
  · rintro ⟨⟨o, ho, rfl⟩, hp⟩
    refine ⟨o, (h2 o).2 ⟨ho, ?_⟩, rfl⟩
    rw [show (prW way o).key = keyS (wayI way o) from rfl, inK_find _ _ (hk.inI ho way) hi] at hp
    unfold hitO
    rw [decide_eq_true hw, decide_eq_true hf, hp]
    rfl
  · rintro ⟨o, ho, rfl⟩
    obtain ⟨g1, g2⟩ := (h2 o).1 ho
    refine ⟨⟨o, g1, rfl⟩, ?_⟩
    rw [show (prW way o).key = keyS (wayI way o) from rfl, inK_find _ _ (hk.inI g1 way) hi]
    unfold hitO at g2
    simp only [Bool.and_eq_true] at g2
    exact g2.2
end Go.Proofs.YtcjfnfdinhbdlaaGreatDoor
