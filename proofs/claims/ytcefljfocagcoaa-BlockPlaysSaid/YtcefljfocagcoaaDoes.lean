/- Both disks beside each other; a call of both. -/
import Derived.Test.YtcefljfocagcoaaRefN
import Derived.Test.YtcefljfocagcoaaRefE
import Derived.Test.YtcefljfocagcoaaBlkH
import Derived.Test.YtcefljfocagcoaaActs
namespace Go.Proofs.Ytcefljfocagcoaa
open Go.ChangeShapes Go.WideShapes Go.ChangeAt Go.RowKit Go.PlainAid

theorem SafeIn.keeps {own : Nat → Prop} {w w' : World} {sa : Option Addr} {n c m : Nat} {f : Nat → ByteArray} (h : SafeIn w (.slice sa m c) n f) (k : Keeps own w w') (ha : ∀ a, sa = some a → ¬ own a.block) : SafeIn w' (.slice sa m c) n f := by
  obtain ⟨q, cap, hv, hb, hc⟩ := h
  cases hv
  have e := k.block q hb (ha _ rfl)
  exact ⟨q, _, rfl, Nat.lt_of_lt_of_le hb k.size, fun i hi => (World.cell?_of_block (w := w) (a := ⟨q, i, none⟩) e).trans (hc i hi)⟩
theorem LateIn.keeps {own : Nat → Prop} {w w' : World} {la : Option Addr} {m c : Nat} {l : List (Nat × ByteArray)} (h : LateIn w (.slice la m c) l) (k : Keeps own w w') (ha : ∀ a, la = some a → ¬ own a.block) : LateIn w' (.slice la m c) l := by
  rcases h with ⟨h1, h2⟩ | ⟨b, cap, hv, hb, hc⟩
  · exact .inl ⟨h1, h2⟩
  · cases hv
    have e := k.block b hb (ha _ rfl)
    exact .inr ⟨b, _, rfl, Nat.lt_of_lt_of_le hb k.size, fun i x hx => ⟨(World.cell?_of_block (w := w) (a := ⟨b, i * 2, none⟩) e).trans (hc i x hx).1, (World.cell?_of_block (w := w) (a := ⟨b, i * 2 + 1, none⟩) e).trans (hc i x hx).2⟩⟩
theorem RefV.keeps {own P : Nat → Prop} {w w' : World} {v : Value} {d : D} (h : RefV P w v d) (k : Keeps own w w') (ho : ∀ b, P b → ¬ own b) : RefV P w' v d := by
  obtain ⟨sa, la, sn, sc, ln, lc, lim, hv, h1, h2, h3, h4, h5, h6, h7, h8⟩ := h
  exact ⟨sa, la, sn, sc, ln, lc, lim, hv, h1.keeps k (fun a e => ho _ (h7 a e)), h2.keeps k (fun a e => ho _ (h8 a e)), h3, h4, h5, h6, h7, h8⟩
/-- What a told call leaves. -/
def D.does (d : D) (a : ActV) : D := if a.kind = 0 then d.write a.at_ a.data else if a.kind = 1 then d.flush else if a.kind = 2 then d else if a.kind = 3 then d.limited a.at_ else d.crash a.mask a.torn a.cut
/-- The code's disk at p and the box of the reference's at q: both read as d. -/
def Both (w0 : World) (p q : Nat) (d : D) (w : World) : Prop := ∃ (F : Foot) (c0 c1 c2 c3 : Value), F.p = p ∧ Dk w F d ∧ Below w0.heap.size w0 w ∧ (∀ k, F.own k → w0.heap.size ≤ k) ∧ ¬ F.own q ∧ w0.heap.size ≤ q ∧
  w.heap[q]? = some (.cells #[c0, c1, c2, c3] 31 (0, 0)) ∧ RefV (fun b => ¬ F.own b ∧ b ≠ q ∧ b < w.heap.size) w (.agg #[c0, c1, c2, c3]) d
/-- Behind a call of the code's, and the new value stored in the box. -/
theorem both_fin {w0 w2 w3 : World} {F : Foot} {q : Nat} {d' : D} {o0 o1 o2 o3 c0 c1 c2 c3 : Value} (hm : Moves F d' w2 w3) (hb : Below w0.heap.size w0 w2) (ho : ∀ k, F.own k → w0.heap.size ≤ k) (hq : ¬ F.own q) (hq0 : w0.heap.size ≤ q)
    (hx : w2.heap[q]? = some (.cells #[o0, o1, o2, o3] 31 (0, 0))) (hv : RefV (fun b => ¬ F.own b ∧ b ≠ q ∧ b < w2.heap.size) w2 (.agg #[c0, c1, c2, c3]) d') :
    Both w0 F.p q d' ((((w3.setCell ⟨q, 0, none⟩ c0).setCell ⟨q, 1, none⟩ c1).setCell ⟨q, 2, none⟩ c2).setCell ⟨q, 3, none⟩ c3) := by
  obtain ⟨F', hd, hp, hn, hk⟩ := hm
  have hqs := heap_lt hx
  have hx3 := (hk.block q hqs hq).trans hx
  have hq' : ¬ F'.own q := fun c => by
    rcases hn q c with c | c
    · exact hq c
    · omega
  have hb3 : Below w0.heap.size w0 w3 := hb.trans (hk.below ho hb.size)
  have e1 : Keeps (fun k => k = q) w3 (w3.setCell ⟨q, 0, none⟩ c0) := (Keeps.refl (fun k => k = q) w3).setCell (.inl rfl) c0
  have e2 : Keeps (fun k => k = q) w3 ((w3.setCell ⟨q, 0, none⟩ c0).setCell ⟨q, 1, none⟩ c1) := e1.setCell (.inl rfl) c1
  have e3 : Keeps (fun k => k = q) w3 (((w3.setCell ⟨q, 0, none⟩ c0).setCell ⟨q, 1, none⟩ c1).setCell ⟨q, 2, none⟩ c2) := e2.setCell (.inl rfl) c2
  have hk4 : Keeps (fun k => k = q) w3 ((((w3.setCell ⟨q, 0, none⟩ c0).setCell ⟨q, 1, none⟩ c1).setCell ⟨q, 2, none⟩ c2).setCell ⟨q, 3, none⟩ c3) := e3.setCell (.inl rfl) c3
  refine ⟨F', c0, c1, c2, c3, hp, ?_, four_below hb3 hq0 _ _ _ _, fun k hk' => ?_, hq', hq0, four_stored hx3 c0 c1 c2 c3, ?_⟩
  · exact DiskAt.keep hd hk4.size (fun k hk => four_other (w1 := w3) (q := q) (k := k) (fun e => by subst e; exact hq' hk) c0 c1 c2 c3)
  · rcases hn k hk' with c | c
    · exact ho k c
    · exact Nat.le_trans hb.size c
  · refine ((hv.keeps hk (fun b h => h.1)).keeps hk4 (fun b h => h.2.1)).mono fun b h => ⟨fun c => ?_, h.2.1, Nat.lt_of_lt_of_le h.2.2 (Nat.le_trans hk.size hk4.size)⟩
    rcases hn b c with c | c
    · exact h.1 c
    · have := h.2.2
      omega
set_option maxHeartbeats 1000000 in
theorem does_read (w0 w : World) (p q : Nat) (d : D) (a : ActV) (hB : Both w0 p q d w) (ha : a.Wf) (hk : a.kind = 2) (hlen : d.late.length < 4294967296) :
    Calls Try.prog 8 #[.pointer (some ⟨p, 0, none⟩), .pointer (some ⟨q, 0, none⟩), .agg #[.int .i64 a.kind, .int .i64 a.at_, .string a.data, .int .u64 a.mask, .int .i64 a.torn, .int .i64 a.cut]] w fun e w' => e = .returned (.bool true) ∧ Both w0 p q (d.does a) w' := by
  obtain ⟨F, c0, c1, c2, c3, rfl, hd, hb, ho, hq, hq0, hx, hv⟩ := hB
  obtain ⟨kind, at_, data, mask, torn, cut⟩ := a
  obtain rfl : kind = 2 := hk
  have HV := Lib.hid hv
  obtain ⟨sa, la, sn, sc, ln, lc, lim, hv, hrest⟩ := hv
  cases hv
  have hqs := heap_lt hx
  have hx1 := (Below.heap_alloc w (.cells #[.int .i64 2, .int .i64 at_, .string data, .int .u64 mask, .int .i64 torn, .int .i64 cut] 39) q hqs).trans hx
  have ha1 := heap_alloc_new w (.cells #[.int .i64 2, .int .i64 at_, .string data, .int .u64 mask, .int .i64 torn, .int .i64 cut] 39)
  obtain ⟨x0, x1, x2, x3, x4, x5, x6, x7⟩ := cells4 hx1
  have hna : w.heap.size ≠ q := by omega
  go_enter Try.func8, Try.ntmps8
  go_wp2_with fail
  have hn2 := heap_alloc2_new w (.cells #[.int .i64 2, .int .i64 at_, .string data, .int .u64 mask, .int .i64 torn, .int .i64 cut] 39) (.cells #[.slice sa sn sc, .slice la ln lc, .int .i64 lim, .bool d.dark] 31)
  have ha2 := heap_alloc2_old w (.cells #[.int .i64 2, .int .i64 at_, .string data, .int .u64 mask, .int .i64 torn, .int .i64 cut] 39) (.cells #[.slice sa sn sc, .slice la ln lc, .int .i64 lim, .bool d.dark] 31)
  have hb2 : Below w.heap.size w ((w.alloc (.cells #[.int .i64 2, .int .i64 at_, .string data, .int .u64 mask, .int .i64 torn, .int .i64 cut] 39)).alloc (.cells #[.slice sa sn sc, .slice la ln lc, .int .i64 lim, .bool d.dark] 31)) := by go_grown
  have hz2 : w.heap.size + 1 < ((w.alloc (.cells #[.int .i64 2, .int .i64 at_, .string data, .int .u64 mask, .int .i64 torn, .int .i64 cut] 39)).alloc (.cells #[.slice sa sn sc, .slice la ln lc, .int .i64 lim, .bool d.dark] 31)).heap.size := by simp
  generalize (w.alloc (.cells #[.int .i64 2, .int .i64 at_, .string data, .int .u64 mask, .int .i64 torn, .int .i64 cut] 39)).alloc (.cells #[.slice sa sn sc, .slice la ln lc, .int .i64 lim, .bool d.dark] 31) = w2 at *
  have hq2 := (hb2.block q hqs).trans hx
  clear x0 x1 x2 x3 x4 x5 x6 x7 hx1 ha1
  obtain ⟨x0, x1, x2, x3, x4, x5, x6, x7⟩ := cells4 hq2
  have a1 : w2.cell? ⟨w.heap.size, 1, none⟩ = some (.int .i64 at_) := by rw [cell_of_row _ _ _ _ _ _ ha2]; rfl
  obtain ⟨hs, hl, hr, l0, l1, lz, lp, lq⟩ := hrest
  obtain ⟨k0, k1⟩ := ha.at_
  have HR := Lib.hid (fun (w3 : World) (b : Below w.heap.size w w3) => rread_any w3 _ _ lim d at_ (hs.on b) (hl.on b) k0 k1 hlen)
  have HD := Lib.hid (fun (w3 : World) (b : Below w.heap.size w w3) => read_any w3 F d at_ (DiskAt.below hd b) k0 k1)
  have HB2 := Lib.hid hb2
  clear hs hl hr hb2
  go_region_law (first
    | (go_simp; (with_reducible refine (HR.out _ (HB2.out.on (by go_grown))).mono ?_); rintro e w3 ⟨rfl, hb3⟩; have hb3' : Below w2.heap.size w2 w3 := (show Below w2.heap.size w2 w2.drew by go_grown).on hb3; have y1 := (hb3'.cell (p := ⟨w.heap.size, 1, none⟩) (Nat.lt_of_succ_lt hz2)).trans a1; have HB3 := Lib.hid (HB2.out.on hb3'); clear hb3 hb3')
    | fail)
  all_goals
    go_wp2_with fail
    ((with_reducible refine (HD.out w3 HB3.out).mono ?_); rintro e _ ⟨rfl, rfl⟩)
    have hr3 : reachE d at_ = 0 ∨ reachE d at_ = 10 ∨ reachE d at_ = 11 := by rcases reachE_cases d at_ with ⟨a, _⟩ | ⟨a, _⟩ | ⟨a, _⟩ <;> simp [a]
    have hfin : Both w0 F.p q (D.does d ⟨2, at_, data, mask, torn, cut⟩) w3 := by
      have e : D.does d ⟨2, at_, data, mask, torn, cut⟩ = d := by
        unfold D.does
        rw [if_neg (show ¬ (2 : Int) = 0 by decide), if_neg (show ¬ (2 : Int) = 1 by decide), if_pos rfl]
      rw [e]
      exact ⟨F, _, _, _, _, rfl, DiskAt.below hd HB3.out, hb.on HB3.out, ho, hq, hq0, (HB3.out.block q hqs).trans hx, (HV.out.on HB3.out).mono fun b h => ⟨h.1, h.2.1, Nat.lt_of_lt_of_le h.2.2 HB3.out.size⟩⟩
    have HF := Lib.hid hfin
    clear hfin
    rcases hr3 with a | a | a
    all_goals
      rw [a]
      go_wp2
      go_returns
      exact ⟨rfl, HF.out⟩
end Go.Proofs.Ytcefljfocagcoaa
