/- Package store: heads as blocks, read again; the law's begun. Package store: disks that are settled; the law's begun. -/
import Derived.Test.YtfcicpcpdklceaaSFmt
import Derived.Test.YtfcicpcpdklceaaSJRefP
namespace Go.Proofs.Ytfcicpcpdklceaa
set_option maxRecDepth 100000
open Go.ChangeShapes Go.WideShapes Go.ChangeAt Go.RowKit Go.PlainAid Go.ChangeMaps Go.MapKept
open Go.Sort (grow)

theorem text_split (h : Hd) : filled h.text = headB h.seq h.used h.room h.pages ++ notS (headB h.seq h.used h.room h.pages) ++ zeroes (256 - h.text.size) := by
  rw [← filled_cat (by rw [h.text_size]; omega)]
  rfl
theorem head_fields (h : Hd) (h1 : h.seq ≤ 1000000) (h2 : h.used ≤ 2048) (h3 : h.room ≤ 2048) (h4 : h.pages ≤ 2048) : fieldsV (headB h.seq h.used h.room h.pages) = headV h := by
  rw [head_back _ _ _ _ (by omega) (by omega)]
  unfold headV uZ
  have e : ∀ x : Nat, x ≤ 2048 → (x : Int) % 18446744073709551616 % 4294967296 = x := fun x hx => by omega
  rw [e _ h2, e _ h3, e _ h4]
theorem reads_head {h : Hd} {k n : Nat} (hf : Fits h k n) (hn : n ≤ 2048) : ReadsAs (filled h.text) k n (some h) := by
  obtain ⟨f1, f2, f3, f4, f5, f6, f7⟩ := hf
  obtain ⟨a, b⟩ := written_ok (headB h.seq h.used h.room h.pages) (zeroes (256 - h.text.size)) (headB_size _ _ _ _)
  rw [text_split]
  refine ⟨a, ?_, ⟨f1, f2, f3, f4, f5, f6, f7⟩⟩
  rw [fields_of _ _ b]
  exact head_fields h f7 (by omega) (by omega) (by omega)
theorem reads_zero (k n : Nat) : ReadsAs zeroText k n none := by
  intro h
  have h2 := h.2
  have e1 : bt (notS (zeroText.extract 0 20)) 0 = 255 := by
    unfold notS
    rw [bt_strOfNums _ 0] <;> rw [notS_get _ _ (by rw [ByteArray.size_extract, zeroText_size]; decide)] <;> rw [bt_ext _ _ _ _ (by rw [zeroText_size]; decide) (by decide), zeroText_bt] <;> decide
  have e2 : bt (zeroText.extract 20 40) 0 = 0 := by
    rw [bt_ext _ _ _ _ (by rw [zeroText_size]; decide) (by decide), zeroText_bt]
  rw [h2, e2] at e1
  cases e1
end Go.Proofs.Ytfcicpcpdklceaa
namespace Go.Proofs.Ytfcicpcpdklceaa
set_option maxRecDepth 100000
open Go.ChangeShapes Go.WideShapes Go.ChangeAt Go.RowKit Go.PlainAid Go.ChangeMaps Go.MapKept
open Go.Sort (grow)

/-- A disk on which nothing is under way: its head h, and what the other block of heads reads as. -/
structure Settled (d : D) (h : Hd) (o : Option Hd) : Prop where
  free : d.free
  late : d.late = []
  n : 2 + h.room + h.pages ≤ d.n
  hi : d.n ≤ 2048
  used : h.used = 0
  cur : ReadsAs (d.last (h.seq % 2)) (h.seq % 2) d.n (some h)
  oth : ReadsAs (d.last ((h.seq + 1) % 2)) ((h.seq + 1) % 2) d.n o
  less : ∀ x, o = some x → x.seq < h.seq
theorem pick_cur {h : Hd} {o : Option Hd} (hl : ∀ x, o = some x → x.seq < h.seq) : pick (pick none (some h)) o = some h ∧ pick (pick none o) (some h) = some h := by
  cases o with
  | none => exact ⟨rfl, rfl⟩
  | some x =>
    have := hl x rfl
    constructor
    · show (if h.seq < x.seq then some x else some h) = _
      rw [if_neg (by omega)]
    · show (if x.seq < h.seq then some h else some x) = _
      rw [if_pos this]
/-- What the two blocks of heads read as. -/
theorem two_heads {d : D} {h : Hd} {o : Option Hd} (cur : ReadsAs (d.last (h.seq % 2)) (h.seq % 2) d.n (some h)) (oth : ReadsAs (d.last ((h.seq + 1) % 2)) ((h.seq + 1) % 2) d.n o) (hl : ∀ x, o = some x → x.seq < h.seq) :
    ∃ o0 o1, ReadsAs (d.last 0) 0 d.n o0 ∧ ReadsAs (d.last 1) 1 d.n o1 ∧ picked o0 o1 2 = some h := by
  obtain ⟨p1, p2⟩ := pick_cur hl
  rcases Nat.mod_two_eq_zero_or_one h.seq with e | e
  · have e2 : (h.seq + 1) % 2 = 1 := by omega
    rw [e] at cur
    rw [e2] at oth
    exact ⟨some h, o, cur, oth, p1⟩
  · have e2 : (h.seq + 1) % 2 = 0 := by omega
    rw [e] at cur
    rw [e2] at oth
    exact ⟨o, some h, oth, cur, p2⟩
theorem Settled.opens {d : D} {h : Hd} {o : Option Hd} (hS : Settled d h o) {w0 w : World} {p : Nat} {L : List (Nat × Obj)} (H : OwnL w0 p d L w) :
    Calls Try.prog 15 #[.pointer (some ⟨p, 0, none⟩)] w fun e w' => ∃ q bm, e = .returned (.tuple #[.pointer (some ⟨q, 0, none⟩), .int .i64 0]) ∧ w.heap.size ≤ q ∧ w.heap.size ≤ bm ∧ StT w0 p q bm 0 d h noPages false L w' := by
  obtain ⟨o0, o1, h0, h1, hp⟩ := two_heads hS.cur hS.oth hS.less
  exact open_zero H hS.free.2 (by have := hS.n; omega) o0 o1 h0 h1 h hp hS.used
theorem filled_empty : filled ⟨#[]⟩ = zeroText := by
  refine text_ext (by rw [filled_size, zeroText_size]) fun k hk => ?_
  rw [filled_size] at hk
  rw [filled_bt _ hk, zeroText_bt]
  exact bt_end _ (Nat.zero_le _)
theorem firstHd_seq (n room : Nat) : (firstHd n room).seq = 2 := rfl
/-- A new disk behind the format. -/
def freshD (n room : Nat) : D := ⟨n, done (fun _ => zeroText) [(1, zeroText), (0, filled (firstHd n room).text)], [], -1, false⟩
theorem formatted_new (n room : Nat) (h0 : room + 3 ≤ n) : formatted (newD n) room = freshD n room := by
  unfold formatted
  have hf : (newD n).free := ⟨rfl, rfl⟩
  have hn : (newD n).n = n := rfl
  have hf1 := free_write_free hf (k := 1) (s := ⟨#[]⟩) (by omega) (by rw [hn]; omega) (by decide)
  have hn1 : ((newD n).write 1 ⟨#[]⟩).n = n := op_n (newD n) (.wr 1 ⟨#[]⟩)
  rw [hn, (free_put hf1 (x := firstHd n room) (by rw [hn1]; omega)).1, free_write hf (by omega) (by rw [hn]; omega) (by decide), filled_empty, firstHd_seq]
  rfl
theorem freshD_last (n room k : Nat) : (freshD n room).last k = done (fun _ => zeroText) [(1, zeroText), (0, filled (firstHd n room).text)] k := rfl
theorem freshD_zero (n room : Nat) : (freshD n room).last 0 = filled (firstHd n room).text := rfl
theorem freshD_one (n room : Nat) : (freshD n room).last 1 = zeroText := rfl
theorem fits_first (n room : Nat) (h1 : 1 ≤ room) (h2 : room + 3 ≤ n) : Fits (firstHd n room) 0 n :=
  ⟨by rw [firstHd_seq], h1, by show 1 ≤ min _ _; omega, by show min _ _ ≤ _; omega, by show 0 ≤ _; omega, by show 2 + room + min _ _ ≤ _; omega, by rw [firstHd_seq]; omega⟩
theorem formatted_settled (n room : Nat) (h1 : 1 ≤ room) (h2 : room + 3 ≤ n) (h3 : n ≤ 2048) : Settled (formatted (newD n) room) (firstHd n room) none := by
  rw [formatted_new n room h2]
  refine ⟨⟨rfl, rfl⟩, rfl, ?_, h3, rfl, ?_, ?_, fun x hx => (by cases hx)⟩
  · show 2 + room + min _ _ ≤ n; omega
  · rw [firstHd_seq, show 2 % 2 = 0 from rfl, freshD_zero]
    exact reads_head (fits_first n room h1 h2) h3
  · rw [firstHd_seq, show (2 + 1) % 2 = 1 from rfl, freshD_one]
    exact reads_zero _ _
theorem formatted_n (n room : Nat) (h2 : room + 3 ≤ n) : (formatted (newD n) room).n = n := by rw [formatted_new n room h2]; rfl
/-- Behind the format every page is empty. -/
theorem formatted_last (n room : Nat) (h2 : room + 3 ≤ n) {k : Nat} (hk : 2 ≤ k) : (formatted (newD n) room).last k = zeroText := by
  rw [formatted_new n room h2, freshD_last, done_off _ k _ (by intro x hx; simp at hx; rcases hx with rfl | rfl <;> (show _ ≠ k; omega))]
set_option maxHeartbeats 1000000 in
theorem begun_any (n room : Nat) (w : World) (h1 : 1 ≤ room) (h2 : room + 3 ≤ n) (h3 : n ≤ 2048) :
    Calls Try.prog 8 #[.int .i64 n, .int .i64 room] w fun e w' => ∃ p q bm, e = .returned (.tuple #[.pointer (some ⟨p, 0, none⟩), .pointer (some ⟨q, 0, none⟩)]) ∧ StT w p q bm 0 (formatted (newD n) room) (firstHd n room) noPages false [] w' := by
  have HN := Lib.hid (new_any (n : Int) w (by omega) (by omega))
  have HST := Lib.hid (formatted_settled n room h1 h2 h3)
  go_enter Try.func8, Try.ntmps8
  go_wp2_with fail
  refine HN.out.mono ?_
  rintro e w1 ⟨F, rfl, hd, hb, ho⟩
  have H1 : OwnL w F.p (newD n) [] w1 := OwnAt.owns ⟨F, rfl, hd, hb, ho⟩
  have HF := Lib.hid (format_any H1 ⟨rfl, rfl⟩ room h1 (by show room + 3 ≤ n; omega) (by show 0 < 100000; omega))
  clear HN hd hb ho H1
  generalize F.p = p at *
  go_wp2_with fail
  refine HF.out.mono ?_
  rintro e w2 ⟨rfl, H2⟩
  have HO := Lib.hid (HST.out.opens H2)
  clear HF H2
  go_wp2_with fail
  refine HO.out.mono ?_
  rintro e w3 ⟨q, bm, rfl, hq, hbm, H3⟩
  have HH3 := Lib.hid H3
  clear HO H3
  go_wp2
  go_returns
  exact ⟨p, q, bm, rfl, HH3.out⟩
end Go.Proofs.Ytfcicpcpdklceaa
