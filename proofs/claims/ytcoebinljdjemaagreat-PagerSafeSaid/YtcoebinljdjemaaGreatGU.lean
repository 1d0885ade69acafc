/- The law's does. (Made by gen/mk_does7.py.) The law's does. (Made by gen/mk_does7.py.) -/
import Derived.Test.YtcoebinljdjemaaGreatGT
import Derived.Test.YtcoebinljdjemaaGreatGS
import Derived.Test.YtcoebinljdjemaaGreatGR
namespace Go.Proofs.YtcoebinljdjemaaGreat
set_option maxRecDepth 100000
open Go.ChangeShapes Go.WideShapes Go.ChangeAt Go.RowKit Go.PlainAid
open Go.Sort (grow)

/-- The reference's pager in its box. -/
def refO (vn vs : Value) : Obj := .cells #[vn, vs] 32 (0, 0)
/-- A pager, and the reference's beside it, with the same pages. -/
def PR (w0 : World) (pp p : Nat) (d : D) (hd : Hd) (c : Nat) (V : Int → ByteArray) (rb : Nat) (sg scap : Nat) (R : List (Nat × Obj)) (w : World) : Prop :=
  ∃ vn x, PS w0 pp p d hd c V ((rb, refO vn (.slice (some ⟨sg, 0, none⟩) 12 scap)) :: x :: R) w ∧ TextsR vn [x] (pgs V) ∧ (∀ y ∈ R, y.1 ≠ rb) ∧ w0.heap.size ≤ rb
/-- The cells of an act in its box. -/
theorem act_box {W : World} {b : Nat} {a : ActV} (h : W.heap[b]? = some (.cells a.cells.toArray 37 (0, 0))) :
    W.cell? ⟨b, 0, none⟩ = some (.int .i64 a.kind) ∧ W.cell? ⟨b, 1, none⟩ = some (.int .i64 a.at_) ∧ W.cell? ⟨b, 2, none⟩ = some (.int .i64 a.to_) ∧ W.cell? ⟨b, 3, none⟩ = some (.string a.data) :=
  ⟨by rw [cell_of_row _ _ _ _ _ _ h]; rfl, by rw [cell_of_row _ _ _ _ _ _ h]; rfl, by rw [cell_of_row _ _ _ _ _ _ h]; rfl, by rw [cell_of_row _ _ _ _ _ _ h]; rfl⟩
/-- A box of the reference's beside a pager is set. -/
theorem PS.setBox2 {w0 w : World} {pp p c b : Nat} {d : D} {hd : Hd} {V : Int → ByteArray} {R : List (Nat × Obj)} {u v : Value} (H : PS w0 pp p d hd c V ((b, refO u v) :: R) w) (hR : ∀ y ∈ R, y.1 ≠ b) (hlo : w0.heap.size ≤ b) (u' v' : Value) :
    PS w0 pp p d hd c V ((b, refO u' v') :: R) ((w.setCell ⟨b, 0, none⟩ u').setCell ⟨b, 1, none⟩ v') := by
  have hne : pp ≠ b := H.ne List.mem_cons_self (cs := #[u, v]) (t := 32) rfl (by decide)
  have hB : Box2 w b u v := ⟨H.mem List.mem_cons_self⟩
  exact H.swap (g := b) hR hne (by simp) (fun k _ hk => (heap_setCell_other _ _ _ _ hk).trans (heap_setCell_other _ _ _ _ hk)) (.inl rfl) (hB.set u' v').obj ((H.below.setCell (p := ⟨b, 0, none⟩) hlo u').setCell (p := ⟨b, 1, none⟩) hlo _)
section
variable {w0 w : World} {pp p c rb sg scap : Nat} {d : D} {hd : Hd} {V : Int → ByteArray} {R : List (Nat × Obj)}
set_option maxHeartbeats 4000000 in
theorem does_format (H : PR w0 pp p d hd c V rb sg scap R w) (h12 : hd.pages = 12) (hc : c < 900000) (a : ActV) (hw : a.Wf) (hk : a.kind < 0) :
    Calls Tryz.prog 9 #[.pointer (some ⟨pp, 0, none⟩), .pointer (some ⟨rb, 0, none⟩), .agg a.cells.toArray] w fun e w' => (∃ b, e = .returned (.bool b)) ∧ PR w0 pp p d hd (c + 2) (fmtV V) rb sg scap R w' := by
  have _h9 := hc
  obtain ⟨vn, x, hP, ht, hRr, hlo⟩ := H
  obtain ⟨g, cap, rfl, _⟩ := (show RP vn x V w from ⟨ht, hP.mem (List.mem_cons_of_mem _ List.mem_cons_self)⟩).open
  obtain ⟨W, hW⟩ : ∃ y, w.alloc (.cells a.cells.toArray 37) = y := ⟨_, rfl⟩
  have hbW : Below w.heap.size w W := by rw [← hW]; go_grown
  have hAo : W.heap[w.heap.size]? = some (.cells a.cells.toArray 37 (0, 0)) := by rw [← hW]; exact heap_alloc_new w _
  have hPW := hP.on hbW
  obtain ⟨X, hX⟩ : ∃ y, W.alloc (.cells #[.slice (some ⟨g, 0, none⟩) 12 cap, .slice (some ⟨sg, 0, none⟩) 12 scap] 32) = y := ⟨_, rfl⟩
  have hbX : Below W.heap.size W X := by rw [← hX]; go_grown
  have hNo : X.heap[W.heap.size]? = some (refO (.slice (some ⟨g, 0, none⟩) 12 cap) (.slice (some ⟨sg, 0, none⟩) 12 scap)) := by rw [← hX]; exact heap_alloc_new W _
  have hXz : X.heap.size = W.heap.size + 1 := by rw [← hX]; simp
  have hPX := hPW.add hbX (Nat.le_refl _) hNo
  have hAX := (hbX.block _ (heap_lt hAo)).trans hAo
  have hB : Box2 W rb (.slice (some ⟨g, 0, none⟩) 12 cap) (.slice (some ⟨sg, 0, none⟩) 12 scap) := ⟨hPW.mem List.mem_cons_self⟩
  have hRP : RP (.slice (some ⟨g, 0, none⟩) 12 cap) x V X := ⟨ht, hPX.mem (List.mem_cons_of_mem _ (List.mem_cons_of_mem _ List.mem_cons_self))⟩
  have s0 := hPX.size (k := 0) (by omega) (by omega)
  have s1 := hPX.size (k := 1) (by omega) (by omega)
  have hrb : rb < W.heap.size := heap_lt hB.obj
  have haw : w.heap.size < W.heap.size := heap_lt hAo
  have hxl : x.1 < W.heap.size := heap_lt (hPW.mem (List.mem_cons_of_mem _ List.mem_cons_self))
  have hRl : ∀ y ∈ R, y.1 < W.heap.size := fun y hy => heap_lt (hPW.mem (List.mem_cons_of_mem _ (List.mem_cons_of_mem _ hy)))
  have hlW : w0.heap.size ≤ W.heap.size := Nat.le_trans hlo (Nat.le_of_lt hrb)
  have hxr : x.1 ≠ rb := fun e => by
    have h1 := hPW.mem (x := x) (List.mem_cons_of_mem _ List.mem_cons_self)
    rw [e, hB.obj] at h1
    obtain ⟨g, cap, cur, _, hm, _⟩ := ht
    rw [List.mem_singleton] at hm
    rw [← hm] at h1
    injection h1 with h1
    injection h1 with _ h1
    exact absurd h1 (by decide)
  obtain ⟨wk, wa, wt, wd⟩ := hw
  have hrb0 := hB.c0
  have hrb1 := hB.c1
  have hBX := hB.on hbX
  have hrx0 := hBX.c0
  have hrx1 := hBX.c1
  obtain ⟨aw0, aw1, aw2, aw3⟩ := act_box hAo
  obtain ⟨ac0, ac1, ac2, ac3⟩ := act_box hAX
  have q0 : (a.kind == 0) = false := by simp; omega
  have q1 : (a.kind == 1) = false := by simp; omega
  have q2 : (a.kind == 2) = false := by simp; omega
  have q3 : (a.kind == 3) = false := by simp; omega
  have q4 : (a.kind == 4) = false := by simp; omega
  have q5 : (a.kind == 5) = false := by simp; omega
  have q6 : (a.kind == 6) = false := by simp; omega
  have q7 : (a.kind == 7) = false := by simp; omega
  have HRF := Lib.hid (hRP.format (some ⟨sg, 0, none⟩) 12 scap)
  have HP := Lib.hid (And.intro hPX (And.intro ht (And.intro hRr (And.intro hlo (And.intro hAX (And.intro hRl hBX))))))
  clear hP ht hRr hbW hAo hPW hB hRP hbX hNo hPX hAX hRl hBX
  go_enter Tryz.func9, Tryz.ntmps9
  go_wp2_with fail
  refine HRF.out.mono ?_
  rintro e w2 ⟨v2, x2, rfl, hR2, hlo2, hb2⟩
  obtain ⟨g2, cap2, rfl, _⟩ := hR2.open
  have hx2 := hlo2
  have H1 := HP.out.1.add (g := x2.1) (o := x2.2) hb2 hlo2 hR2.2
  have hA2 := (hb2.block _ (heap_lt HP.out.2.2.2.2.1)).trans HP.out.2.2.2.2.1
  have D2 : Box2 w2 W.heap.size (.slice (some ⟨g, 0, none⟩) 12 cap) (.slice (some ⟨sg, 0, none⟩) 12 scap) := ⟨H1.mem (List.mem_cons_of_mem _ List.mem_cons_self)⟩
  have z0 := D2.c0
  have z1 := D2.c1
  have y0 := D2.f 0
  have y1 := D2.f 1
  have H2 := (H1.sub ((W.heap.size, refO (.slice (some ⟨g, 0, none⟩) 12 cap) (.slice (some ⟨sg, 0, none⟩) 12 scap)) :: x2 :: (rb, refO (.slice (some ⟨g, 0, none⟩) 12 cap) (.slice (some ⟨sg, 0, none⟩) 12 scap)) :: R) (by intro y hy; simp only [List.mem_cons] at hy ⊢; rcases hy with h | h | h | h <;> simp [h])).setBox2 (fun y hy => by
    simp only [List.mem_cons] at hy
    rcases hy with rfl | rfl | hy
    · omega
    · show rb ≠ _; omega
    · have := HP.out.2.2.2.2.2.1 y hy; omega) hlW (.slice (some ⟨g2, 0, none⟩) 12 cap2) (.slice (some ⟨sg, 0, none⟩) 12 scap)
  have hA3 : ((w2.setCell ⟨W.heap.size, 0, none⟩ (.slice (some ⟨g2, 0, none⟩) 12 cap2)).setCell ⟨W.heap.size, 1, none⟩ (.slice (some ⟨sg, 0, none⟩) 12 scap)).heap[w.heap.size]? = some (.cells a.cells.toArray 37 (0, 0)) := (heap_setCell_other _ _ _ _ (show w.heap.size ≠ W.heap.size by omega)).trans ((heap_setCell_other _ _ _ _ (show w.heap.size ≠ W.heap.size by omega)).trans hA2)
  have HTR := Lib.hid (And.intro hR2.1 (show x2.1 ≠ rb by omega))
  clear H1 hA2 hb2 D2
  clear HRF
  obtain ⟨w3, hw3⟩ : ∃ y, (w2.setCell ⟨W.heap.size, 0, none⟩ (.slice (some ⟨g2, 0, none⟩) 12 cap2)).setCell ⟨W.heap.size, 1, none⟩ (.slice (some ⟨sg, 0, none⟩) 12 scap) = y := ⟨_, rfl⟩
  rw [hw3] at H2 hA3
  clear hR2 hlo2
  obtain ⟨ac0, ac1, ac2, ac3⟩ := act_box hA3
  have HPF := Lib.hid (H2.format (by omega) hc)
  clear H2 hA3 hX hW
  go_wp2_with fail
  refine HPF.out.mono ?_
  rintro e w4 ⟨rfl, H4⟩
  have E4 : Box2 w4 W.heap.size (.slice (some ⟨g2, 0, none⟩) 12 cap2) (.slice (some ⟨sg, 0, none⟩) 12 scap) := ⟨H4.mem List.mem_cons_self⟩
  have D4 : Box2 w4 rb (.slice (some ⟨g, 0, none⟩) 12 cap) (.slice (some ⟨sg, 0, none⟩) 12 scap) := ⟨H4.mem (List.mem_cons_of_mem _ (List.mem_cons_of_mem _ List.mem_cons_self))⟩
  have H5 := ((H4.mono (c' := c + 2) (by omega)).sub ((rb, refO (.slice (some ⟨g, 0, none⟩) 12 cap) (.slice (some ⟨sg, 0, none⟩) 12 scap)) :: x2 :: R) (by intro y hy; simp only [List.mem_cons] at hy ⊢; rcases hy with h | h | h <;> simp [h])).setBox2 (fun y hy => by
    rcases List.mem_cons.1 hy with rfl | hy
    · exact HTR.out.2
    · exact HP.out.2.2.1 y hy) HP.out.2.2.2.1 (.slice (some ⟨g2, 0, none⟩) 12 cap2) (.slice (some ⟨sg, 0, none⟩) 12 scap)
  have HF : Hid (PR w0 pp p d hd (c + 2) (fmtV V) rb sg scap R _) := Lib.hid ⟨_, x2, H5, HTR.out.1, HP.out.2.2.1, HP.out.2.2.2.1⟩
  have z0 := E4.c0
  have z1 := E4.c1
  have z2 := D4.c0
  have z3 := D4.c1
  have y0 := D4.f 0
  have y1 := D4.f 1
  clear H4 H5 HPF E4 D4
  go_wp2
  go_returns
  exact ⟨⟨_, rfl⟩, HF.out⟩
end
end Go.Proofs.YtcoebinljdjemaaGreat
namespace Go.Proofs.YtcoebinljdjemaaGreat
set_option maxRecDepth 100000
open Go.ChangeShapes Go.WideShapes Go.ChangeAt Go.RowKit Go.PlainAid
open Go.Sort (grow)

section
variable {w0 w : World} {pp p c rb sg scap : Nat} {d : D} {hd : Hd} {V : Int → ByteArray} {R : List (Nat × Obj)}
set_option maxHeartbeats 4000000 in
theorem does_alloc (H : PR w0 pp p d hd c V rb sg scap R w) (h12 : hd.pages = 12) (hc : c < 900000) (a : ActV) (hw : a.Wf) (v : Int) (hk : a.kind = 0 ∧ Least (V 0) 2 (12 : Nat) v) :
    Calls Tryz.prog 9 #[.pointer (some ⟨pp, 0, none⟩), .pointer (some ⟨rb, 0, none⟩), .agg a.cells.toArray] w fun e w' => (∃ b, e = .returned (.bool b)) ∧ PR w0 pp p d hd (c + 2) (givenV V v) rb sg scap R w' := by
  have _h9 := hc
  obtain ⟨vn, x, hP, ht, hRr, hlo⟩ := H
  obtain ⟨g, cap, rfl, _⟩ := (show RP vn x V w from ⟨ht, hP.mem (List.mem_cons_of_mem _ List.mem_cons_self)⟩).open
  obtain ⟨W, hW⟩ : ∃ y, w.alloc (.cells a.cells.toArray 37) = y := ⟨_, rfl⟩
  have hbW : Below w.heap.size w W := by rw [← hW]; go_grown
  have hAo : W.heap[w.heap.size]? = some (.cells a.cells.toArray 37 (0, 0)) := by rw [← hW]; exact heap_alloc_new w _
  have hPW := hP.on hbW
  obtain ⟨X, hX⟩ : ∃ y, W.alloc (.cells #[.slice (some ⟨g, 0, none⟩) 12 cap, .slice (some ⟨sg, 0, none⟩) 12 scap] 32) = y := ⟨_, rfl⟩
  have hbX : Below W.heap.size W X := by rw [← hX]; go_grown
  have hNo : X.heap[W.heap.size]? = some (refO (.slice (some ⟨g, 0, none⟩) 12 cap) (.slice (some ⟨sg, 0, none⟩) 12 scap)) := by rw [← hX]; exact heap_alloc_new W _
  have hXz : X.heap.size = W.heap.size + 1 := by rw [← hX]; simp
  have hPX := hPW.add hbX (Nat.le_refl _) hNo
  have hAX := (hbX.block _ (heap_lt hAo)).trans hAo
  have hB : Box2 W rb (.slice (some ⟨g, 0, none⟩) 12 cap) (.slice (some ⟨sg, 0, none⟩) 12 scap) := ⟨hPW.mem List.mem_cons_self⟩
  have hRP : RP (.slice (some ⟨g, 0, none⟩) 12 cap) x V X := ⟨ht, hPX.mem (List.mem_cons_of_mem _ (List.mem_cons_of_mem _ List.mem_cons_self))⟩
  have s0 := hPX.size (k := 0) (by omega) (by omega)
  have s1 := hPX.size (k := 1) (by omega) (by omega)
  have hrb : rb < W.heap.size := heap_lt hB.obj
  have haw : w.heap.size < W.heap.size := heap_lt hAo
  have hxl : x.1 < W.heap.size := heap_lt (hPW.mem (List.mem_cons_of_mem _ List.mem_cons_self))
  have hRl : ∀ y ∈ R, y.1 < W.heap.size := fun y hy => heap_lt (hPW.mem (List.mem_cons_of_mem _ (List.mem_cons_of_mem _ hy)))
  have hlW : w0.heap.size ≤ W.heap.size := Nat.le_trans hlo (Nat.le_of_lt hrb)
  have hxr : x.1 ≠ rb := fun e => by
    have h1 := hPW.mem (x := x) (List.mem_cons_of_mem _ List.mem_cons_self)
    rw [e, hB.obj] at h1
    obtain ⟨g, cap, cur, _, hm, _⟩ := ht
    rw [List.mem_singleton] at hm
    rw [← hm] at h1
    injection h1 with h1
    injection h1 with _ h1
    exact absurd h1 (by decide)
  obtain ⟨wk, wa, wt, wd⟩ := hw
  have hrb0 := hB.c0
  have hrb1 := hB.c1
  have hBX := hB.on hbX
  have hrx0 := hBX.c0
  have hrx1 := hBX.c1
  obtain ⟨aw0, aw1, aw2, aw3⟩ := act_box hAo
  obtain ⟨ac0, ac1, ac2, ac3⟩ := act_box hAX
  have hkk : a.kind = 0 := hk.1
  rw [hkk] at ac0 aw0
  have HRF := Lib.hid (hRP.alloc (some ⟨sg, 0, none⟩) 12 scap s0 v hk.2)
  have HP := Lib.hid (And.intro hPX (And.intro ht (And.intro hRr (And.intro hlo (And.intro hAX (And.intro hRl hBX))))))
  clear hP ht hRr hbW hAo hPW hB hRP hbX hNo hPX hAX hRl hBX
  go_enter Tryz.func9, Tryz.ntmps9
  go_wp2_with fail
  refine HRF.out.mono ?_
  rintro e w2 ⟨v2, x2, rfl, hR2, hlo2, hb2⟩
  obtain ⟨g2, cap2, rfl, _⟩ := hR2.open
  have hx2 := hlo2
  have H1 := HP.out.1.add (g := x2.1) (o := x2.2) hb2 hlo2 hR2.2
  have hA2 := (hb2.block _ (heap_lt HP.out.2.2.2.2.1)).trans HP.out.2.2.2.2.1
  have D2 : Box2 w2 W.heap.size (.slice (some ⟨g, 0, none⟩) 12 cap) (.slice (some ⟨sg, 0, none⟩) 12 scap) := ⟨H1.mem (List.mem_cons_of_mem _ List.mem_cons_self)⟩
  have z0 := D2.c0
  have z1 := D2.c1
  have y0 := D2.f 0
  have y1 := D2.f 1
  have H2 := (H1.sub ((W.heap.size, refO (.slice (some ⟨g, 0, none⟩) 12 cap) (.slice (some ⟨sg, 0, none⟩) 12 scap)) :: x2 :: (rb, refO (.slice (some ⟨g, 0, none⟩) 12 cap) (.slice (some ⟨sg, 0, none⟩) 12 scap)) :: R) (by intro y hy; simp only [List.mem_cons] at hy ⊢; rcases hy with h | h | h | h <;> simp [h])).setBox2 (fun y hy => by
    simp only [List.mem_cons] at hy
    rcases hy with rfl | rfl | hy
    · omega
    · show rb ≠ _; omega
    · have := HP.out.2.2.2.2.2.1 y hy; omega) hlW (.slice (some ⟨g2, 0, none⟩) 12 cap2) (.slice (some ⟨sg, 0, none⟩) 12 scap)
  have hA3 : ((w2.setCell ⟨W.heap.size, 0, none⟩ (.slice (some ⟨g2, 0, none⟩) 12 cap2)).setCell ⟨W.heap.size, 1, none⟩ (.slice (some ⟨sg, 0, none⟩) 12 scap)).heap[w.heap.size]? = some (.cells a.cells.toArray 37 (0, 0)) := (heap_setCell_other _ _ _ _ (show w.heap.size ≠ W.heap.size by omega)).trans ((heap_setCell_other _ _ _ _ (show w.heap.size ≠ W.heap.size by omega)).trans hA2)
  have HTR := Lib.hid (And.intro hR2.1 (show x2.1 ≠ rb by omega))
  clear H1 hA2 hb2 D2
  clear HRF
  obtain ⟨w3, hw3⟩ : ∃ y, (w2.setCell ⟨W.heap.size, 0, none⟩ (.slice (some ⟨g2, 0, none⟩) 12 cap2)).setCell ⟨W.heap.size, 1, none⟩ (.slice (some ⟨sg, 0, none⟩) 12 scap) = y := ⟨_, rfl⟩
  rw [hw3] at H2 hA3
  clear hR2 hlo2
  obtain ⟨ac0, ac1, ac2, ac3⟩ := act_box hA3
  have HPF := Lib.hid (H2.alloc (by omega) hc v (by rw [h12]; exact hk.2))
  clear H2 hA3 hX hW
  go_wp2_with fail
  refine HPF.out.mono ?_
  rintro e w4 ⟨rfl, H4⟩
  have E4 : Box2 w4 W.heap.size (.slice (some ⟨g2, 0, none⟩) 12 cap2) (.slice (some ⟨sg, 0, none⟩) 12 scap) := ⟨H4.mem List.mem_cons_self⟩
  have D4 : Box2 w4 rb (.slice (some ⟨g, 0, none⟩) 12 cap) (.slice (some ⟨sg, 0, none⟩) 12 scap) := ⟨H4.mem (List.mem_cons_of_mem _ (List.mem_cons_of_mem _ List.mem_cons_self))⟩
  have H5 := ((H4.mono (c' := c + 2) (by omega)).sub ((rb, refO (.slice (some ⟨g, 0, none⟩) 12 cap) (.slice (some ⟨sg, 0, none⟩) 12 scap)) :: x2 :: R) (by intro y hy; simp only [List.mem_cons] at hy ⊢; rcases hy with h | h | h <;> simp [h])).setBox2 (fun y hy => by
    rcases List.mem_cons.1 hy with rfl | hy
    · exact HTR.out.2
    · exact HP.out.2.2.1 y hy) HP.out.2.2.2.1 (.slice (some ⟨g2, 0, none⟩) 12 cap2) (.slice (some ⟨sg, 0, none⟩) 12 scap)
  have HF : Hid (PR w0 pp p d hd (c + 2) (givenV V v) rb sg scap R _) := Lib.hid ⟨_, x2, H5, HTR.out.1, HP.out.2.2.1, HP.out.2.2.2.1⟩
  have z0 := E4.c0
  have z1 := E4.c1
  have z2 := D4.c0
  have z3 := D4.c1
  have y0 := D4.f 0
  have y1 := D4.f 1
  clear H4 H5 HPF E4 D4
  go_wp2
  go_returns
  exact ⟨⟨_, rfl⟩, HF.out⟩
set_option maxHeartbeats 4000000 in
theorem does_alloc_no (H : PR w0 pp p d hd c V rb sg scap R w) (h12 : hd.pages = 12) (hc : c < 900000) (a : ActV) (hw : a.Wf) (hk : a.kind = 0 ∧ ∀ l, ¬ LowP (V 0) 2 (12 : Nat) l) :
    Calls Tryz.prog 9 #[.pointer (some ⟨pp, 0, none⟩), .pointer (some ⟨rb, 0, none⟩), .agg a.cells.toArray] w fun e w' => (∃ b, e = .returned (.bool b)) ∧ PR w0 pp p d hd (c + 2) (V) rb sg scap R w' := by
  have _h9 := hc
  obtain ⟨vn, x, hP, ht, hRr, hlo⟩ := H
  obtain ⟨g, cap, rfl, _⟩ := (show RP vn x V w from ⟨ht, hP.mem (List.mem_cons_of_mem _ List.mem_cons_self)⟩).open
  obtain ⟨W, hW⟩ : ∃ y, w.alloc (.cells a.cells.toArray 37) = y := ⟨_, rfl⟩
  have hbW : Below w.heap.size w W := by rw [← hW]; go_grown
  have hAo : W.heap[w.heap.size]? = some (.cells a.cells.toArray 37 (0, 0)) := by rw [← hW]; exact heap_alloc_new w _
  have hPW := hP.on hbW
  obtain ⟨X, hX⟩ : ∃ y, W.alloc (.cells #[.slice (some ⟨g, 0, none⟩) 12 cap, .slice (some ⟨sg, 0, none⟩) 12 scap] 32) = y := ⟨_, rfl⟩
  have hbX : Below W.heap.size W X := by rw [← hX]; go_grown
  have hNo : X.heap[W.heap.size]? = some (refO (.slice (some ⟨g, 0, none⟩) 12 cap) (.slice (some ⟨sg, 0, none⟩) 12 scap)) := by rw [← hX]; exact heap_alloc_new W _
  have hXz : X.heap.size = W.heap.size + 1 := by rw [← hX]; simp
  have hPX := hPW.add hbX (Nat.le_refl _) hNo
  have hAX := (hbX.block _ (heap_lt hAo)).trans hAo
  have hB : Box2 W rb (.slice (some ⟨g, 0, none⟩) 12 cap) (.slice (some ⟨sg, 0, none⟩) 12 scap) := ⟨hPW.mem List.mem_cons_self⟩
  have hRP : RP (.slice (some ⟨g, 0, none⟩) 12 cap) x V X := ⟨ht, hPX.mem (List.mem_cons_of_mem _ (List.mem_cons_of_mem _ List.mem_cons_self))⟩
  have s0 := hPX.size (k := 0) (by omega) (by omega)
  have s1 := hPX.size (k := 1) (by omega) (by omega)
  have hrb : rb < W.heap.size := heap_lt hB.obj
  have haw : w.heap.size < W.heap.size := heap_lt hAo
  have hxl : x.1 < W.heap.size := heap_lt (hPW.mem (List.mem_cons_of_mem _ List.mem_cons_self))
  have hRl : ∀ y ∈ R, y.1 < W.heap.size := fun y hy => heap_lt (hPW.mem (List.mem_cons_of_mem _ (List.mem_cons_of_mem _ hy)))
  have hlW : w0.heap.size ≤ W.heap.size := Nat.le_trans hlo (Nat.le_of_lt hrb)
  have hxr : x.1 ≠ rb := fun e => by
    have h1 := hPW.mem (x := x) (List.mem_cons_of_mem _ List.mem_cons_self)
    rw [e, hB.obj] at h1
    obtain ⟨g, cap, cur, _, hm, _⟩ := ht
    rw [List.mem_singleton] at hm
    rw [← hm] at h1
    injection h1 with h1
    injection h1 with _ h1
    exact absurd h1 (by decide)
  obtain ⟨wk, wa, wt, wd⟩ := hw
  have hrb0 := hB.c0
  have hrb1 := hB.c1
  have hBX := hB.on hbX
  have hrx0 := hBX.c0
  have hrx1 := hBX.c1
  obtain ⟨aw0, aw1, aw2, aw3⟩ := act_box hAo
  obtain ⟨ac0, ac1, ac2, ac3⟩ := act_box hAX
  have hkk : a.kind = 0 := hk.1
  rw [hkk] at ac0 aw0
  have HRF := Lib.hid (hRP.alloc_no (some ⟨sg, 0, none⟩) 12 scap s0 hk.2)
  have HP := Lib.hid (And.intro hPX (And.intro ht (And.intro hRr (And.intro hlo (And.intro hAX (And.intro hRl hBX))))))
  clear hP ht hRr hbW hAo hPW hB hRP hbX hNo hPX hAX hRl hBX
  go_enter Tryz.func9, Tryz.ntmps9
  go_wp2_with fail
  refine HRF.out.mono ?_
  rintro e w2 ⟨rfl, hb2⟩
  have H1 := HP.out.1.on hb2
  have hA2 := (hb2.block _ (heap_lt HP.out.2.2.2.2.1)).trans HP.out.2.2.2.2.1
  have D2 : Box2 w2 W.heap.size (.slice (some ⟨g, 0, none⟩) 12 cap) (.slice (some ⟨sg, 0, none⟩) 12 scap) := ⟨H1.mem List.mem_cons_self⟩
  have z0 := D2.c0
  have z1 := D2.c1
  have y0 := D2.f 0
  have y1 := D2.f 1
  have H2 := H1.setBox2 (fun y hy => by
    simp only [List.mem_cons] at hy
    rcases hy with rfl | rfl | hy
    · show rb ≠ _; omega
    · omega
    · have := HP.out.2.2.2.2.2.1 y hy; omega) hlW (.slice (some ⟨g, 0, none⟩) 12 cap) (.slice (some ⟨sg, 0, none⟩) 12 scap)
  have hA3 : ((w2.setCell ⟨W.heap.size, 0, none⟩ (.slice (some ⟨g, 0, none⟩) 12 cap)).setCell ⟨W.heap.size, 1, none⟩ (.slice (some ⟨sg, 0, none⟩) 12 scap)).heap[w.heap.size]? = some (.cells a.cells.toArray 37 (0, 0)) := (heap_setCell_other _ _ _ _ (show w.heap.size ≠ W.heap.size by omega)).trans ((heap_setCell_other _ _ _ _ (show w.heap.size ≠ W.heap.size by omega)).trans hA2)
  clear H1 hA2 hb2 D2
  clear HRF
  obtain ⟨w3, hw3⟩ : ∃ y, (w2.setCell ⟨W.heap.size, 0, none⟩ (.slice (some ⟨g, 0, none⟩) 12 cap)).setCell ⟨W.heap.size, 1, none⟩ (.slice (some ⟨sg, 0, none⟩) 12 scap) = y := ⟨_, rfl⟩
  rw [hw3] at H2 hA3
  obtain ⟨ac0, ac1, ac2, ac3⟩ := act_box hA3
  have HPF := Lib.hid (H2.alloc_no (by omega) (by rw [h12]; exact hk.2))
  clear H2 hA3 hX hW
  go_wp2_with fail
  refine HPF.out.mono ?_
  rintro e w4 ⟨rfl, H4⟩
  have E4 : Box2 w4 W.heap.size (.slice (some ⟨g, 0, none⟩) 12 cap) (.slice (some ⟨sg, 0, none⟩) 12 scap) := ⟨H4.mem List.mem_cons_self⟩
  have D4 : Box2 w4 rb (.slice (some ⟨g, 0, none⟩) 12 cap) (.slice (some ⟨sg, 0, none⟩) 12 scap) := ⟨H4.mem (List.mem_cons_of_mem _ List.mem_cons_self)⟩
  have H5 := ((H4.mono (c' := c + 2) (by omega)).sub ((rb, refO (.slice (some ⟨g, 0, none⟩) 12 cap) (.slice (some ⟨sg, 0, none⟩) 12 scap)) :: x :: R) (fun y hy => List.mem_cons_of_mem _ hy)).setBox2 (fun y hy => by
    rcases List.mem_cons.1 hy with rfl | hy
    · exact hxr
    · exact HP.out.2.2.1 y hy) HP.out.2.2.2.1 (.slice (some ⟨g, 0, none⟩) 12 cap) (.slice (some ⟨sg, 0, none⟩) 12 scap)
  have HF : Hid (PR w0 pp p d hd (c + 2) (V) rb sg scap R _) := Lib.hid ⟨_, x, H5, HP.out.2.1, HP.out.2.2.1, HP.out.2.2.2.1⟩
  have z0 := E4.c0
  have z1 := E4.c1
  have z2 := D4.c0
  have z3 := D4.c1
  have y0 := D4.f 0
  have y1 := D4.f 1
  clear H4 H5 HPF E4 D4
  go_wp2
  go_returns
  exact ⟨⟨_, rfl⟩, HF.out⟩
set_option maxHeartbeats 4000000 in
theorem does_free (H : PR w0 pp p d hd c V rb sg scap R w) (h12 : hd.pages = 12) (hc : c < 900000) (a : ActV) (hw : a.Wf) (hk : a.kind = 1 ∧ outB 12 (V 0) a.at_ = true) :
    Calls Tryz.prog 9 #[.pointer (some ⟨pp, 0, none⟩), .pointer (some ⟨rb, 0, none⟩), .agg a.cells.toArray] w fun e w' => (∃ b, e = .returned (.bool b)) ∧ PR w0 pp p d hd (c + 2) (updV V 0 (withS (V 0) a.at_ false)) rb sg scap R w' := by
  have _h9 := hc
  obtain ⟨vn, x, hP, ht, hRr, hlo⟩ := H
  obtain ⟨g, cap, rfl, _⟩ := (show RP vn x V w from ⟨ht, hP.mem (List.mem_cons_of_mem _ List.mem_cons_self)⟩).open
  obtain ⟨W, hW⟩ : ∃ y, w.alloc (.cells a.cells.toArray 37) = y := ⟨_, rfl⟩
  have hbW : Below w.heap.size w W := by rw [← hW]; go_grown
  have hAo : W.heap[w.heap.size]? = some (.cells a.cells.toArray 37 (0, 0)) := by rw [← hW]; exact heap_alloc_new w _
  have hPW := hP.on hbW
  obtain ⟨X, hX⟩ : ∃ y, W.alloc (.cells #[.slice (some ⟨g, 0, none⟩) 12 cap, .slice (some ⟨sg, 0, none⟩) 12 scap] 32) = y := ⟨_, rfl⟩
  have hbX : Below W.heap.size W X := by rw [← hX]; go_grown
  have hNo : X.heap[W.heap.size]? = some (refO (.slice (some ⟨g, 0, none⟩) 12 cap) (.slice (some ⟨sg, 0, none⟩) 12 scap)) := by rw [← hX]; exact heap_alloc_new W _
  have hXz : X.heap.size = W.heap.size + 1 := by rw [← hX]; simp
  have hPX := hPW.add hbX (Nat.le_refl _) hNo
  have hAX := (hbX.block _ (heap_lt hAo)).trans hAo
  have hB : Box2 W rb (.slice (some ⟨g, 0, none⟩) 12 cap) (.slice (some ⟨sg, 0, none⟩) 12 scap) := ⟨hPW.mem List.mem_cons_self⟩
  have hRP : RP (.slice (some ⟨g, 0, none⟩) 12 cap) x V X := ⟨ht, hPX.mem (List.mem_cons_of_mem _ (List.mem_cons_of_mem _ List.mem_cons_self))⟩
  have s0 := hPX.size (k := 0) (by omega) (by omega)
  have s1 := hPX.size (k := 1) (by omega) (by omega)
  have hrb : rb < W.heap.size := heap_lt hB.obj
  have haw : w.heap.size < W.heap.size := heap_lt hAo
  have hxl : x.1 < W.heap.size := heap_lt (hPW.mem (List.mem_cons_of_mem _ List.mem_cons_self))
  have hRl : ∀ y ∈ R, y.1 < W.heap.size := fun y hy => heap_lt (hPW.mem (List.mem_cons_of_mem _ (List.mem_cons_of_mem _ hy)))
  have hlW : w0.heap.size ≤ W.heap.size := Nat.le_trans hlo (Nat.le_of_lt hrb)
  have hxr : x.1 ≠ rb := fun e => by
    have h1 := hPW.mem (x := x) (List.mem_cons_of_mem _ List.mem_cons_self)
    rw [e, hB.obj] at h1
    obtain ⟨g, cap, cur, _, hm, _⟩ := ht
    rw [List.mem_singleton] at hm
    rw [← hm] at h1
    injection h1 with h1
    injection h1 with _ h1
    exact absurd h1 (by decide)
  obtain ⟨wk, wa, wt, wd⟩ := hw
  have hrb0 := hB.c0
  have hrb1 := hB.c1
  have hBX := hB.on hbX
  have hrx0 := hBX.c0
  have hrx1 := hBX.c1
  obtain ⟨aw0, aw1, aw2, aw3⟩ := act_box hAo
  obtain ⟨ac0, ac1, ac2, ac3⟩ := act_box hAX
  have hkk : a.kind = 1 := hk.1
  rw [hkk] at ac0 aw0
  have HRF := Lib.hid ((hRP.on (show Below X.heap.size X X.drew by go_grown)).free (some ⟨sg, 0, none⟩) 12 scap a.at_ s0 wa.1 wa.2 hk.2)
  have hdr : Below X.heap.size X X.drew := by go_grown
  have hXz : X.drew.heap.size = W.heap.size + 1 := hXz
  have hPX := hPX.on hdr
  have hAX := (hdr.block _ (heap_lt hAX)).trans hAX
  have hBX := hBX.on hdr
  have hrx0 := hBX.c0
  have hrx1 := hBX.c1
  obtain ⟨ac0, ac1, ac2, ac3⟩ := act_box hAX
  rw [hkk] at ac0
  have HP := Lib.hid (And.intro hPX (And.intro ht (And.intro hRr (And.intro hlo (And.intro hAX (And.intro hRl hBX))))))
  clear hP ht hRr hbW hAo hPW hB hRP hbX hNo hPX hAX hRl hBX hdr
  go_enter Tryz.func9, Tryz.ntmps9
  go_wp2_with fail
  go_region_law (first
      | (go_simp; (with_reducible refine HRF.out.mono ?_); rintro e w2 ⟨v2, x2, rfl, hR2, hlo2, hb2⟩
         obtain ⟨g2, cap2, rfl, _⟩ := hR2.open
         have hx2 := hlo2
         have H1 := HP.out.1.add (g := x2.1) (o := x2.2) hb2 hlo2 hR2.2
         have hA2 := (hb2.block _ (heap_lt HP.out.2.2.2.2.1)).trans HP.out.2.2.2.2.1
         have D2 : Box2 w2 W.heap.size (.slice (some ⟨g, 0, none⟩) 12 cap) (.slice (some ⟨sg, 0, none⟩) 12 scap) := ⟨H1.mem (List.mem_cons_of_mem _ List.mem_cons_self)⟩
         have z0 := D2.c0
         have z1 := D2.c1
         have y0 := D2.f 0
         have y1 := D2.f 1)
      | fail)
  all_goals
    have H2 := (H1.sub ((W.heap.size, refO (.slice (some ⟨g, 0, none⟩) 12 cap) (.slice (some ⟨sg, 0, none⟩) 12 scap)) :: x2 :: (rb, refO (.slice (some ⟨g, 0, none⟩) 12 cap) (.slice (some ⟨sg, 0, none⟩) 12 scap)) :: R) (by intro y hy; simp only [List.mem_cons] at hy ⊢; rcases hy with h | h | h | h <;> simp [h])).setBox2 (fun y hy => by
      simp only [List.mem_cons] at hy
      rcases hy with rfl | rfl | hy
      · omega
      · show rb ≠ _; omega
      · have := HP.out.2.2.2.2.2.1 y hy; omega) hlW (.slice (some ⟨g2, 0, none⟩) 12 cap2) (.slice (some ⟨sg, 0, none⟩) 12 scap)
    have hA3 : ((w2.setCell ⟨W.heap.size, 0, none⟩ (.slice (some ⟨g2, 0, none⟩) 12 cap2)).setCell ⟨W.heap.size, 1, none⟩ (.slice (some ⟨sg, 0, none⟩) 12 scap)).heap[w.heap.size]? = some (.cells a.cells.toArray 37 (0, 0)) := (heap_setCell_other _ _ _ _ (show w.heap.size ≠ W.heap.size by omega)).trans ((heap_setCell_other _ _ _ _ (show w.heap.size ≠ W.heap.size by omega)).trans hA2)
    have HTR := Lib.hid (And.intro hR2.1 (show x2.1 ≠ rb by omega))
    clear H1 hA2 hb2 D2
    clear HRF
    obtain ⟨w3, hw3⟩ : ∃ y, (w2.setCell ⟨W.heap.size, 0, none⟩ (.slice (some ⟨g2, 0, none⟩) 12 cap2)).setCell ⟨W.heap.size, 1, none⟩ (.slice (some ⟨sg, 0, none⟩) 12 scap) = y := ⟨_, rfl⟩
    rw [hw3] at H2 hA3
    clear hR2 hlo2
    obtain ⟨ac0, ac1, ac2, ac3⟩ := act_box hA3
    have HPF := Lib.hid (H2.free a.at_ wa.1 wa.2 (by omega) (by omega) (by rw [h12]; exact hk.2))
    clear H2 hA3 hX hW
    go_wp2_with fail
    refine HPF.out.mono ?_
    rintro e w4 ⟨rfl, H4⟩
    have E4 : Box2 w4 W.heap.size (.slice (some ⟨g2, 0, none⟩) 12 cap2) (.slice (some ⟨sg, 0, none⟩) 12 scap) := ⟨H4.mem List.mem_cons_self⟩
    have D4 : Box2 w4 rb (.slice (some ⟨g, 0, none⟩) 12 cap) (.slice (some ⟨sg, 0, none⟩) 12 scap) := ⟨H4.mem (List.mem_cons_of_mem _ (List.mem_cons_of_mem _ List.mem_cons_self))⟩
    have H5 := ((H4.mono (c' := c + 2) (by omega)).sub ((rb, refO (.slice (some ⟨g, 0, none⟩) 12 cap) (.slice (some ⟨sg, 0, none⟩) 12 scap)) :: x2 :: R) (by intro y hy; simp only [List.mem_cons] at hy ⊢; rcases hy with h | h | h <;> simp [h])).setBox2 (fun y hy => by
      rcases List.mem_cons.1 hy with rfl | hy
      · exact HTR.out.2
      · exact HP.out.2.2.1 y hy) HP.out.2.2.2.1 (.slice (some ⟨g2, 0, none⟩) 12 cap2) (.slice (some ⟨sg, 0, none⟩) 12 scap)
    have HF : Hid (PR w0 pp p d hd (c + 2) (updV V 0 (withS (V 0) a.at_ false)) rb sg scap R _) := Lib.hid ⟨_, x2, H5, HTR.out.1, HP.out.2.2.1, HP.out.2.2.2.1⟩
    have z0 := E4.c0
    have z1 := E4.c1
    have z2 := D4.c0
    have z3 := D4.c1
    have y0 := D4.f 0
    have y1 := D4.f 1
    clear H4 H5 HPF E4 D4
    go_wp2
    go_returns
    exact ⟨⟨_, rfl⟩, HF.out⟩
set_option maxHeartbeats 4000000 in
theorem does_free_no (H : PR w0 pp p d hd c V rb sg scap R w) (h12 : hd.pages = 12) (hc : c < 900000) (a : ActV) (hw : a.Wf) (hk : a.kind = 1 ∧ outB 12 (V 0) a.at_ = false) :
    Calls Tryz.prog 9 #[.pointer (some ⟨pp, 0, none⟩), .pointer (some ⟨rb, 0, none⟩), .agg a.cells.toArray] w fun e w' => (∃ b, e = .returned (.bool b)) ∧ PR w0 pp p d hd (c + 2) (V) rb sg scap R w' := by
  have _h9 := hc
  obtain ⟨vn, x, hP, ht, hRr, hlo⟩ := H
  obtain ⟨g, cap, rfl, _⟩ := (show RP vn x V w from ⟨ht, hP.mem (List.mem_cons_of_mem _ List.mem_cons_self)⟩).open
  obtain ⟨W, hW⟩ : ∃ y, w.alloc (.cells a.cells.toArray 37) = y := ⟨_, rfl⟩
  have hbW : Below w.heap.size w W := by rw [← hW]; go_grown
  have hAo : W.heap[w.heap.size]? = some (.cells a.cells.toArray 37 (0, 0)) := by rw [← hW]; exact heap_alloc_new w _
  have hPW := hP.on hbW
  obtain ⟨X, hX⟩ : ∃ y, W.alloc (.cells #[.slice (some ⟨g, 0, none⟩) 12 cap, .slice (some ⟨sg, 0, none⟩) 12 scap] 32) = y := ⟨_, rfl⟩
  have hbX : Below W.heap.size W X := by rw [← hX]; go_grown
  have hNo : X.heap[W.heap.size]? = some (refO (.slice (some ⟨g, 0, none⟩) 12 cap) (.slice (some ⟨sg, 0, none⟩) 12 scap)) := by rw [← hX]; exact heap_alloc_new W _
  have hXz : X.heap.size = W.heap.size + 1 := by rw [← hX]; simp
  have hPX := hPW.add hbX (Nat.le_refl _) hNo
  have hAX := (hbX.block _ (heap_lt hAo)).trans hAo
  have hB : Box2 W rb (.slice (some ⟨g, 0, none⟩) 12 cap) (.slice (some ⟨sg, 0, none⟩) 12 scap) := ⟨hPW.mem List.mem_cons_self⟩
  have hRP : RP (.slice (some ⟨g, 0, none⟩) 12 cap) x V X := ⟨ht, hPX.mem (List.mem_cons_of_mem _ (List.mem_cons_of_mem _ List.mem_cons_self))⟩
  have s0 := hPX.size (k := 0) (by omega) (by omega)
  have s1 := hPX.size (k := 1) (by omega) (by omega)
  have hrb : rb < W.heap.size := heap_lt hB.obj
  have haw : w.heap.size < W.heap.size := heap_lt hAo
  have hxl : x.1 < W.heap.size := heap_lt (hPW.mem (List.mem_cons_of_mem _ List.mem_cons_self))
  have hRl : ∀ y ∈ R, y.1 < W.heap.size := fun y hy => heap_lt (hPW.mem (List.mem_cons_of_mem _ (List.mem_cons_of_mem _ hy)))
  have hlW : w0.heap.size ≤ W.heap.size := Nat.le_trans hlo (Nat.le_of_lt hrb)
  have hxr : x.1 ≠ rb := fun e => by
    have h1 := hPW.mem (x := x) (List.mem_cons_of_mem _ List.mem_cons_self)
    rw [e, hB.obj] at h1
    obtain ⟨g, cap, cur, _, hm, _⟩ := ht
    rw [List.mem_singleton] at hm
    rw [← hm] at h1
    injection h1 with h1
    injection h1 with _ h1
    exact absurd h1 (by decide)
  obtain ⟨wk, wa, wt, wd⟩ := hw
  have hrb0 := hB.c0
  have hrb1 := hB.c1
  have hBX := hB.on hbX
  have hrx0 := hBX.c0
  have hrx1 := hBX.c1
  obtain ⟨aw0, aw1, aw2, aw3⟩ := act_box hAo
  obtain ⟨ac0, ac1, ac2, ac3⟩ := act_box hAX
  have hkk : a.kind = 1 := hk.1
  rw [hkk] at ac0 aw0
  have HRF := Lib.hid ((hRP.on (show Below X.heap.size X X.drew by go_grown)).free_no (some ⟨sg, 0, none⟩) 12 scap a.at_ s0 wa.1 wa.2 hk.2)
  have hdr : Below X.heap.size X X.drew := by go_grown
  have hXz : X.drew.heap.size = W.heap.size + 1 := hXz
  have hPX := hPX.on hdr
  have hAX := (hdr.block _ (heap_lt hAX)).trans hAX
  have hBX := hBX.on hdr
  have hrx0 := hBX.c0
  have hrx1 := hBX.c1
  obtain ⟨ac0, ac1, ac2, ac3⟩ := act_box hAX
  rw [hkk] at ac0
  have HP := Lib.hid (And.intro hPX (And.intro ht (And.intro hRr (And.intro hlo (And.intro hAX (And.intro hRl hBX))))))
  clear hP ht hRr hbW hAo hPW hB hRP hbX hNo hPX hAX hRl hBX hdr
  go_enter Tryz.func9, Tryz.ntmps9
  go_wp2_with fail
  go_region_law (first
      | (go_simp; (with_reducible refine HRF.out.mono ?_); rintro e w2 ⟨rfl, hb2⟩
         have H1 := HP.out.1.on hb2
         have hA2 := (hb2.block _ (heap_lt HP.out.2.2.2.2.1)).trans HP.out.2.2.2.2.1
         have D2 : Box2 w2 W.heap.size (.slice (some ⟨g, 0, none⟩) 12 cap) (.slice (some ⟨sg, 0, none⟩) 12 scap) := ⟨H1.mem List.mem_cons_self⟩
         have z0 := D2.c0
         have z1 := D2.c1
         have y0 := D2.f 0
         have y1 := D2.f 1)
      | fail)
  all_goals
    have H2 := H1.setBox2 (fun y hy => by
      simp only [List.mem_cons] at hy
      rcases hy with rfl | rfl | hy
      · show rb ≠ _; omega
      · omega
      · have := HP.out.2.2.2.2.2.1 y hy; omega) hlW (.slice (some ⟨g, 0, none⟩) 12 cap) (.slice (some ⟨sg, 0, none⟩) 12 scap)
    have hA3 : ((w2.setCell ⟨W.heap.size, 0, none⟩ (.slice (some ⟨g, 0, none⟩) 12 cap)).setCell ⟨W.heap.size, 1, none⟩ (.slice (some ⟨sg, 0, none⟩) 12 scap)).heap[w.heap.size]? = some (.cells a.cells.toArray 37 (0, 0)) := (heap_setCell_other _ _ _ _ (show w.heap.size ≠ W.heap.size by omega)).trans ((heap_setCell_other _ _ _ _ (show w.heap.size ≠ W.heap.size by omega)).trans hA2)
    clear H1 hA2 hb2 D2
    clear HRF
    obtain ⟨w3, hw3⟩ : ∃ y, (w2.setCell ⟨W.heap.size, 0, none⟩ (.slice (some ⟨g, 0, none⟩) 12 cap)).setCell ⟨W.heap.size, 1, none⟩ (.slice (some ⟨sg, 0, none⟩) 12 scap) = y := ⟨_, rfl⟩
    rw [hw3] at H2 hA3
    obtain ⟨ac0, ac1, ac2, ac3⟩ := act_box hA3
    have HPF := Lib.hid (H2.free_no a.at_ wa.1 wa.2 (by omega) (by rw [h12]; exact hk.2))
    clear H2 hA3 hX hW
    go_wp2_with fail
    refine HPF.out.mono ?_
    rintro e w4 ⟨rfl, H4⟩
    have E4 : Box2 w4 W.heap.size (.slice (some ⟨g, 0, none⟩) 12 cap) (.slice (some ⟨sg, 0, none⟩) 12 scap) := ⟨H4.mem List.mem_cons_self⟩
    have D4 : Box2 w4 rb (.slice (some ⟨g, 0, none⟩) 12 cap) (.slice (some ⟨sg, 0, none⟩) 12 scap) := ⟨H4.mem (List.mem_cons_of_mem _ List.mem_cons_self)⟩
    have H5 := ((H4.mono (c' := c + 2) (by omega)).sub ((rb, refO (.slice (some ⟨g, 0, none⟩) 12 cap) (.slice (some ⟨sg, 0, none⟩) 12 scap)) :: x :: R) (fun y hy => List.mem_cons_of_mem _ hy)).setBox2 (fun y hy => by
      rcases List.mem_cons.1 hy with rfl | hy
      · exact hxr
      · exact HP.out.2.2.1 y hy) HP.out.2.2.2.1 (.slice (some ⟨g, 0, none⟩) 12 cap) (.slice (some ⟨sg, 0, none⟩) 12 scap)
    have HF : Hid (PR w0 pp p d hd (c + 2) (V) rb sg scap R _) := Lib.hid ⟨_, x, H5, HP.out.2.1, HP.out.2.2.1, HP.out.2.2.2.1⟩
    have z0 := E4.c0
    have z1 := E4.c1
    have z2 := D4.c0
    have z3 := D4.c1
    have y0 := D4.f 0
    have y1 := D4.f 1
    clear H4 H5 HPF E4 D4
    go_wp2
    go_returns
    exact ⟨⟨_, rfl⟩, HF.out⟩
set_option maxHeartbeats 4000000 in
theorem does_get (H : PR w0 pp p d hd c V rb sg scap R w) (h12 : hd.pages = 12) (hc : c < 900000) (a : ActV) (hw : a.Wf) (hk : a.kind = 2 ∧ outB 12 (V 0) a.at_ = true) :
    Calls Tryz.prog 9 #[.pointer (some ⟨pp, 0, none⟩), .pointer (some ⟨rb, 0, none⟩), .agg a.cells.toArray] w fun e w' => (∃ b, e = .returned (.bool b)) ∧ PR w0 pp p d hd (c + 2) (V) rb sg scap R w' := by
  have _h9 := hc
  obtain ⟨vn, x, hP, ht, hRr, hlo⟩ := H
  obtain ⟨g, cap, rfl, _⟩ := (show RP vn x V w from ⟨ht, hP.mem (List.mem_cons_of_mem _ List.mem_cons_self)⟩).open
  obtain ⟨W, hW⟩ : ∃ y, w.alloc (.cells a.cells.toArray 37) = y := ⟨_, rfl⟩
  have hbW : Below w.heap.size w W := by rw [← hW]; go_grown
  have hAo : W.heap[w.heap.size]? = some (.cells a.cells.toArray 37 (0, 0)) := by rw [← hW]; exact heap_alloc_new w _
  have hPW := hP.on hbW
  obtain ⟨X, hX⟩ : ∃ y, W.alloc (.cells #[.slice (some ⟨g, 0, none⟩) 12 cap, .slice (some ⟨sg, 0, none⟩) 12 scap] 32) = y := ⟨_, rfl⟩
  have hbX : Below W.heap.size W X := by rw [← hX]; go_grown
  have hNo : X.heap[W.heap.size]? = some (refO (.slice (some ⟨g, 0, none⟩) 12 cap) (.slice (some ⟨sg, 0, none⟩) 12 scap)) := by rw [← hX]; exact heap_alloc_new W _
  have hXz : X.heap.size = W.heap.size + 1 := by rw [← hX]; simp
  have hPX := hPW.add hbX (Nat.le_refl _) hNo
  have hAX := (hbX.block _ (heap_lt hAo)).trans hAo
  have hB : Box2 W rb (.slice (some ⟨g, 0, none⟩) 12 cap) (.slice (some ⟨sg, 0, none⟩) 12 scap) := ⟨hPW.mem List.mem_cons_self⟩
  have hRP : RP (.slice (some ⟨g, 0, none⟩) 12 cap) x V X := ⟨ht, hPX.mem (List.mem_cons_of_mem _ (List.mem_cons_of_mem _ List.mem_cons_self))⟩
  have s0 := hPX.size (k := 0) (by omega) (by omega)
  have s1 := hPX.size (k := 1) (by omega) (by omega)
  have hrb : rb < W.heap.size := heap_lt hB.obj
  have haw : w.heap.size < W.heap.size := heap_lt hAo
  have hxl : x.1 < W.heap.size := heap_lt (hPW.mem (List.mem_cons_of_mem _ List.mem_cons_self))
  have hRl : ∀ y ∈ R, y.1 < W.heap.size := fun y hy => heap_lt (hPW.mem (List.mem_cons_of_mem _ (List.mem_cons_of_mem _ hy)))
  have hlW : w0.heap.size ≤ W.heap.size := Nat.le_trans hlo (Nat.le_of_lt hrb)
  have hxr : x.1 ≠ rb := fun e => by
    have h1 := hPW.mem (x := x) (List.mem_cons_of_mem _ List.mem_cons_self)
    rw [e, hB.obj] at h1
    obtain ⟨g, cap, cur, _, hm, _⟩ := ht
    rw [List.mem_singleton] at hm
    rw [← hm] at h1
    injection h1 with h1
    injection h1 with _ h1
    exact absurd h1 (by decide)
  obtain ⟨wk, wa, wt, wd⟩ := hw
  have hrb0 := hB.c0
  have hrb1 := hB.c1
  have hBX := hB.on hbX
  have hrx0 := hBX.c0
  have hrx1 := hBX.c1
  obtain ⟨aw0, aw1, aw2, aw3⟩ := act_box hAo
  obtain ⟨ac0, ac1, ac2, ac3⟩ := act_box hAX
  have hkk : a.kind = 2 := hk.1
  rw [hkk] at ac0 aw0
  have HRF := Lib.hid ((hRP.on (show Below X.heap.size X X.drew by go_grown)).get (some ⟨sg, 0, none⟩) 12 scap a.at_ s0 wa.1 wa.2 hk.2)
  have hdr : Below X.heap.size X X.drew := by go_grown
  have hXz : X.drew.heap.size = W.heap.size + 1 := hXz
  have hPX := hPX.on hdr
  have hAX := (hdr.block _ (heap_lt hAX)).trans hAX
  have hBX := hBX.on hdr
  have hrx0 := hBX.c0
  have hrx1 := hBX.c1
  obtain ⟨ac0, ac1, ac2, ac3⟩ := act_box hAX
  rw [hkk] at ac0
  have HP := Lib.hid (And.intro hPX (And.intro ht (And.intro hRr (And.intro hlo (And.intro hAX (And.intro hRl hBX))))))
  clear hP ht hRr hbW hAo hPW hB hRP hbX hNo hPX hAX hRl hBX hdr
  go_enter Tryz.func9, Tryz.ntmps9
  go_wp2_with fail
  go_region_law (first
      | (go_simp; (with_reducible refine HRF.out.mono ?_); rintro e w2 ⟨rfl, hb2⟩)
      | fail)
  all_goals
    have H1 := HP.out.1.on hb2
    have hA2 := (hb2.block _ (heap_lt HP.out.2.2.2.2.1)).trans HP.out.2.2.2.2.1
    have H2 := H1
    have hA3 := hA2
    clear H1 hA2 hb2 HRF
    obtain ⟨ac0, ac1, ac2, ac3⟩ := act_box hA3
    have HPF := Lib.hid (H2.get a.at_ wa.1 wa.2 (by omega) (by rw [h12]; exact hk.2))
    clear H2 hA3 hX hW
    go_wp2_with fail
    refine HPF.out.mono ?_
    rintro e w4 ⟨rfl, H4⟩
    have HF : Hid (PR w0 pp p d hd (c + 2) V rb sg scap R w4) := Lib.hid ⟨_, x, (H4.mono (by omega)).sub _ (fun y hy => List.mem_cons_of_mem _ hy), HP.out.2.1, HP.out.2.2.1, HP.out.2.2.2.1⟩
    clear H4 HPF
    go_wp2
    go_returns
    exact ⟨⟨_, rfl⟩, HF.out⟩
set_option maxHeartbeats 4000000 in
theorem does_get_no (H : PR w0 pp p d hd c V rb sg scap R w) (h12 : hd.pages = 12) (hc : c < 900000) (a : ActV) (hw : a.Wf) (hk : a.kind = 2 ∧ outB 12 (V 0) a.at_ = false) :
    Calls Tryz.prog 9 #[.pointer (some ⟨pp, 0, none⟩), .pointer (some ⟨rb, 0, none⟩), .agg a.cells.toArray] w fun e w' => (∃ b, e = .returned (.bool b)) ∧ PR w0 pp p d hd (c + 2) (V) rb sg scap R w' := by
  have _h9 := hc
  obtain ⟨vn, x, hP, ht, hRr, hlo⟩ := H
  obtain ⟨g, cap, rfl, _⟩ := (show RP vn x V w from ⟨ht, hP.mem (List.mem_cons_of_mem _ List.mem_cons_self)⟩).open
  obtain ⟨W, hW⟩ : ∃ y, w.alloc (.cells a.cells.toArray 37) = y := ⟨_, rfl⟩
  have hbW : Below w.heap.size w W := by rw [← hW]; go_grown
  have hAo : W.heap[w.heap.size]? = some (.cells a.cells.toArray 37 (0, 0)) := by rw [← hW]; exact heap_alloc_new w _
  have hPW := hP.on hbW
  obtain ⟨X, hX⟩ : ∃ y, W.alloc (.cells #[.slice (some ⟨g, 0, none⟩) 12 cap, .slice (some ⟨sg, 0, none⟩) 12 scap] 32) = y := ⟨_, rfl⟩
  have hbX : Below W.heap.size W X := by rw [← hX]; go_grown
  have hNo : X.heap[W.heap.size]? = some (refO (.slice (some ⟨g, 0, none⟩) 12 cap) (.slice (some ⟨sg, 0, none⟩) 12 scap)) := by rw [← hX]; exact heap_alloc_new W _
  have hXz : X.heap.size = W.heap.size + 1 := by rw [← hX]; simp
  have hPX := hPW.add hbX (Nat.le_refl _) hNo
  have hAX := (hbX.block _ (heap_lt hAo)).trans hAo
  have hB : Box2 W rb (.slice (some ⟨g, 0, none⟩) 12 cap) (.slice (some ⟨sg, 0, none⟩) 12 scap) := ⟨hPW.mem List.mem_cons_self⟩
  have hRP : RP (.slice (some ⟨g, 0, none⟩) 12 cap) x V X := ⟨ht, hPX.mem (List.mem_cons_of_mem _ (List.mem_cons_of_mem _ List.mem_cons_self))⟩
  have s0 := hPX.size (k := 0) (by omega) (by omega)
  have s1 := hPX.size (k := 1) (by omega) (by omega)
  have hrb : rb < W.heap.size := heap_lt hB.obj
  have haw : w.heap.size < W.heap.size := heap_lt hAo
  have hxl : x.1 < W.heap.size := heap_lt (hPW.mem (List.mem_cons_of_mem _ List.mem_cons_self))
  have hRl : ∀ y ∈ R, y.1 < W.heap.size := fun y hy => heap_lt (hPW.mem (List.mem_cons_of_mem _ (List.mem_cons_of_mem _ hy)))
  have hlW : w0.heap.size ≤ W.heap.size := Nat.le_trans hlo (Nat.le_of_lt hrb)
  have hxr : x.1 ≠ rb := fun e => by
    have h1 := hPW.mem (x := x) (List.mem_cons_of_mem _ List.mem_cons_self)
    rw [e, hB.obj] at h1
    obtain ⟨g, cap, cur, _, hm, _⟩ := ht
    rw [List.mem_singleton] at hm
    rw [← hm] at h1
    injection h1 with h1
    injection h1 with _ h1
    exact absurd h1 (by decide)
  obtain ⟨wk, wa, wt, wd⟩ := hw
  have hrb0 := hB.c0
  have hrb1 := hB.c1
  have hBX := hB.on hbX
  have hrx0 := hBX.c0
  have hrx1 := hBX.c1
  obtain ⟨aw0, aw1, aw2, aw3⟩ := act_box hAo
  obtain ⟨ac0, ac1, ac2, ac3⟩ := act_box hAX
  have hkk : a.kind = 2 := hk.1
  rw [hkk] at ac0 aw0
  have HRF := Lib.hid ((hRP.on (show Below X.heap.size X X.drew by go_grown)).get_no (some ⟨sg, 0, none⟩) 12 scap a.at_ s0 wa.1 wa.2 hk.2)
  have hdr : Below X.heap.size X X.drew := by go_grown
  have hXz : X.drew.heap.size = W.heap.size + 1 := hXz
  have hPX := hPX.on hdr
  have hAX := (hdr.block _ (heap_lt hAX)).trans hAX
  have hBX := hBX.on hdr
  have hrx0 := hBX.c0
  have hrx1 := hBX.c1
  obtain ⟨ac0, ac1, ac2, ac3⟩ := act_box hAX
  rw [hkk] at ac0
  have HP := Lib.hid (And.intro hPX (And.intro ht (And.intro hRr (And.intro hlo (And.intro hAX (And.intro hRl hBX))))))
  clear hP ht hRr hbW hAo hPW hB hRP hbX hNo hPX hAX hRl hBX hdr
  go_enter Tryz.func9, Tryz.ntmps9
  go_wp2_with fail
  go_region_law (first
      | (go_simp; (with_reducible refine HRF.out.mono ?_); rintro e w2 ⟨rfl, hb2⟩)
      | fail)
  all_goals
    have H1 := HP.out.1.on hb2
    have hA2 := (hb2.block _ (heap_lt HP.out.2.2.2.2.1)).trans HP.out.2.2.2.2.1
    have H2 := H1
    have hA3 := hA2
    clear H1 hA2 hb2 HRF
    obtain ⟨ac0, ac1, ac2, ac3⟩ := act_box hA3
    have HPF := Lib.hid (H2.get_no a.at_ wa.1 wa.2 (by omega) (by rw [h12]; exact hk.2))
    clear H2 hA3 hX hW
    go_wp2_with fail
    refine HPF.out.mono ?_
    rintro e w4 ⟨rfl, H4⟩
    have HF : Hid (PR w0 pp p d hd (c + 2) V rb sg scap R w4) := Lib.hid ⟨_, x, (H4.mono (by omega)).sub _ (fun y hy => List.mem_cons_of_mem _ hy), HP.out.2.1, HP.out.2.2.1, HP.out.2.2.2.1⟩
    clear H4 HPF
    go_wp2
    go_returns
    exact ⟨⟨_, rfl⟩, HF.out⟩
end
end Go.Proofs.YtcoebinljdjemaaGreat
