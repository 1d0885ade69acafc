/- The law's does. (Made by gen/mk_does7.py.) The law's does, whatever the act. Pages of a new store; the power goes; the same pages. -/
import Derived.Test.YtcoebinljdjemaaGreatGU
import Derived.Test.YtcoebinljdjemaaGreatGV
namespace Go.Proofs.YtcoebinljdjemaaGreat
set_option maxRecDepth 100000
open Go.ChangeShapes Go.WideShapes Go.ChangeAt Go.RowKit Go.PlainAid
open Go.Sort (grow)

section
variable {w0 w : World} {pp p c rb sg scap : Nat} {d : D} {hd : Hd} {V : Int → ByteArray} {R : List (Nat × Obj)}
set_option maxHeartbeats 4000000 in
theorem does_setroot (H : PR w0 pp p d hd c V rb sg scap R w) (h12 : hd.pages = 12) (hc : c < 900000) (a : ActV) (hw : a.Wf) (hk : a.kind = 5 ∧ (0 ≤ a.at_ ∧ a.at_ < 16) ∧ (a.to_ ≠ 0 → outB 12 (V 0) a.to_ = true)) :
    Calls Tryz.prog 9 #[.pointer (some ⟨pp, 0, none⟩), .pointer (some ⟨rb, 0, none⟩), .agg a.cells.toArray] w fun e w' => (∃ b, e = .returned (.bool b)) ∧ PR w0 pp p d hd (c + 2) (updV V 1 (setRoot (V 1) a.at_ a.to_)) rb sg scap R w' := by
  have _h9 := hc
  obtain ⟨vn, x, hP, ht, hRr, hlo⟩ := H
  obtain ⟨g, cap, rfl, _⟩ := (show RP vn x V w from ⟨ht, hP.mem (List.mem_cons_of_mem _ List.mem_cons_self)⟩).open
  obtain ⟨W, hW⟩ : ∃ y, w.alloc (.cells a.cells.toArray 37) = y := ⟨_, rfl⟩
  have hbW : Below w.heap.size w W := by rw [← hW]; go_grown
  have hAo : W.heap[w.heap.size]? = some (.cells a.cells.toArray 37 (0, 0)) := by rw [← hW]; exact heap_alloc_new w _
  have hPW := hP.on hbW
  obtain ⟨X, hX⟩ : ∃ y, W.alloc (.cells #[.slice (some ⟨g, 0, none⟩) 12 cap, .slice (some ⟨sg, 0, none⟩) 12 scap] 32) = y := ⟨_, rfl⟩
  have hbX : Below W.heap.size W X := by rw [← hX]; go_grown
  have hNo : X.heap[W.heap.size]? = some (refO (.slice (some ⟨g, 0, none⟩) 12 cap) (.slice (some ⟨sg, 0, none⟩) 12 scap)) := by rw [← hX]; exact heap_alloc_new W _
  have hXz : X.heap.size = W.heap.size + 1 := by rw [← hX]; simp
  have hPX := hPW.add hbX (Nat.le_refl _) hNo
  have hAX := (hbX.block _ (heap_lt hAo)).trans hAo
  have hB : Box2 W rb (.slice (some ⟨g, 0, none⟩) 12 cap) (.slice (some ⟨sg, 0, none⟩) 12 scap) := ⟨hPW.mem List.mem_cons_self⟩
  have hRP : RP (.slice (some ⟨g, 0, none⟩) 12 cap) x V X := ⟨ht, hPX.mem (List.mem_cons_of_mem _ (List.mem_cons_of_mem _ List.mem_cons_self))⟩
  have s0 := hPX.size (k := 0) (by omega) (by omega)
  have s1 := hPX.size (k := 1) (by omega) (by omega)
  have hrb : rb < W.heap.size := heap_lt hB.obj
  have haw : w.heap.size < W.heap.size := heap_lt hAo
  have hxl : x.1 < W.heap.size := heap_lt (hPW.mem (List.mem_cons_of_mem _ List.mem_cons_self))
  have hRl : ∀ y ∈ R, y.1 < W.heap.size := fun y hy => heap_lt (hPW.mem (List.mem_cons_of_mem _ (List.mem_cons_of_mem _ hy)))
  have hlW : w0.heap.size ≤ W.heap.size := Nat.le_trans hlo (Nat.le_of_lt hrb)
  have hxr : x.1 ≠ rb := fun e => by
    have h1 := hPW.mem (x := x) (List.mem_cons_of_mem _ List.mem_cons_self)
    rw [e, hB.obj] at h1
    obtain ⟨g, cap, cur, _, hm, _⟩ := ht
    rw [List.mem_singleton] at hm
    rw [← hm] at h1
    injection h1 with h1
    injection h1 with _ h1
    exact absurd h1 (by decide)
  obtain ⟨wk, wa, wt, wd⟩ := hw
  have hrb0 := hB.c0
  have hrb1 := hB.c1
  have hBX := hB.on hbX
  have hrx0 := hBX.c0
  have hrx1 := hBX.c1
  obtain ⟨aw0, aw1, aw2, aw3⟩ := act_box hAo
  obtain ⟨ac0, ac1, ac2, ac3⟩ := act_box hAX
  have hkk : a.kind = 5 := hk.1
  rw [hkk] at ac0 aw0
  have HRF := Lib.hid ((hRP.on (show Below X.heap.size X X.drew by go_grown)).setRootP (some ⟨sg, 0, none⟩) 12 scap a.at_ a.to_ hk.2.1 s1 s0 hk.2.2 wt.1 wt.2)
  have hdr : Below X.heap.size X X.drew := by go_grown
  have hXz : X.drew.heap.size = W.heap.size + 1 := hXz
  have hPX := hPX.on hdr
  have hAX := (hdr.block _ (heap_lt hAX)).trans hAX
  have hBX := hBX.on hdr
  have hrx0 := hBX.c0
  have hrx1 := hBX.c1
  obtain ⟨ac0, ac1, ac2, ac3⟩ := act_box hAX
  rw [hkk] at ac0
  have HP := Lib.hid (And.intro hPX (And.intro ht (And.intro hRr (And.intro hlo (And.intro hAX (And.intro hRl hBX))))))
  clear hP ht hRr hbW hAo hPW hB hRP hbX hNo hPX hAX hRl hBX hdr
  go_enter Tryz.func9, Tryz.ntmps9
  go_wp2_with fail
  go_region_law (first
      | (go_simp; (with_reducible refine HRF.out.mono ?_); rintro e w2 ⟨v2, x2, rfl, hR2, hlo2, hb2⟩
         obtain ⟨g2, cap2, rfl, _⟩ := hR2.open
         have hx2 := hlo2
         have H1 := HP.out.1.add (g := x2.1) (o := x2.2) hb2 hlo2 hR2.2
         have hA2 := (hb2.block _ (heap_lt HP.out.2.2.2.2.1)).trans HP.out.2.2.2.2.1
         have D2 : Box2 w2 W.heap.size (.slice (some ⟨g, 0, none⟩) 12 cap) (.slice (some ⟨sg, 0, none⟩) 12 scap) := ⟨H1.mem (List.mem_cons_of_mem _ List.mem_cons_self)⟩
         have z0 := D2.c0
         have z1 := D2.c1
         have y0 := D2.f 0
         have y1 := D2.f 1)
      | fail)
  all_goals
    have H2 := (H1.sub ((W.heap.size, refO (.slice (some ⟨g, 0, none⟩) 12 cap) (.slice (some ⟨sg, 0, none⟩) 12 scap)) :: x2 :: (rb, refO (.slice (some ⟨g, 0, none⟩) 12 cap) (.slice (some ⟨sg, 0, none⟩) 12 scap)) :: R) (by intro y hy; simp only [List.mem_cons] at hy ⊢; rcases hy with h | h | h | h <;> simp [h])).setBox2 (fun y hy => by
      simp only [List.mem_cons] at hy
      rcases hy with rfl | rfl | hy
      · omega
      · show rb ≠ _; omega
      · have := HP.out.2.2.2.2.2.1 y hy; omega) hlW (.slice (some ⟨g2, 0, none⟩) 12 cap2) (.slice (some ⟨sg, 0, none⟩) 12 scap)
    have hA3 : ((w2.setCell ⟨W.heap.size, 0, none⟩ (.slice (some ⟨g2, 0, none⟩) 12 cap2)).setCell ⟨W.heap.size, 1, none⟩ (.slice (some ⟨sg, 0, none⟩) 12 scap)).heap[w.heap.size]? = some (.cells a.cells.toArray 37 (0, 0)) := (heap_setCell_other _ _ _ _ (show w.heap.size ≠ W.heap.size by omega)).trans ((heap_setCell_other _ _ _ _ (show w.heap.size ≠ W.heap.size by omega)).trans hA2)
    have HTR := Lib.hid (And.intro hR2.1 (show x2.1 ≠ rb by omega))
    clear H1 hA2 hb2 D2
    clear HRF
    obtain ⟨w3, hw3⟩ : ∃ y, (w2.setCell ⟨W.heap.size, 0, none⟩ (.slice (some ⟨g2, 0, none⟩) 12 cap2)).setCell ⟨W.heap.size, 1, none⟩ (.slice (some ⟨sg, 0, none⟩) 12 scap) = y := ⟨_, rfl⟩
    rw [hw3] at H2 hA3
    clear hR2 hlo2
    obtain ⟨ac0, ac1, ac2, ac3⟩ := act_box hA3
    have HPF := Lib.hid (H2.setRoot a.at_ a.to_ hk.2.1 (by omega) (by omega) (by rw [h12]; exact hk.2.2) wt.1 wt.2)
    clear H2 hA3 hX hW
    go_wp2_with fail
    refine HPF.out.mono ?_
    rintro e w4 ⟨rfl, H4⟩
    have E4 : Box2 w4 W.heap.size (.slice (some ⟨g2, 0, none⟩) 12 cap2) (.slice (some ⟨sg, 0, none⟩) 12 scap) := ⟨H4.mem List.mem_cons_self⟩
    have D4 : Box2 w4 rb (.slice (some ⟨g, 0, none⟩) 12 cap) (.slice (some ⟨sg, 0, none⟩) 12 scap) := ⟨H4.mem (List.mem_cons_of_mem _ (List.mem_cons_of_mem _ List.mem_cons_self))⟩
    have H5 := ((H4.mono (c' := c + 2) (by omega)).sub ((rb, refO (.slice (some ⟨g, 0, none⟩) 12 cap) (.slice (some ⟨sg, 0, none⟩) 12 scap)) :: x2 :: R) (by intro y hy; simp only [List.mem_cons] at hy ⊢; rcases hy with h | h | h <;> simp [h])).setBox2 (fun y hy => by
      rcases List.mem_cons.1 hy with rfl | hy
      · exact HTR.out.2
      · exact HP.out.2.2.1 y hy) HP.out.2.2.2.1 (.slice (some ⟨g2, 0, none⟩) 12 cap2) (.slice (some ⟨sg, 0, none⟩) 12 scap)
    have HF : Hid (PR w0 pp p d hd (c + 2) (updV V 1 (setRoot (V 1) a.at_ a.to_)) rb sg scap R _) := Lib.hid ⟨_, x2, H5, HTR.out.1, HP.out.2.2.1, HP.out.2.2.2.1⟩
    have z0 := E4.c0
    have z1 := E4.c1
    have z2 := D4.c0
    have z3 := D4.c1
    have y0 := D4.f 0
    have y1 := D4.f 1
    clear H4 H5 HPF E4 D4
    go_wp2
    go_returns
    exact ⟨⟨_, rfl⟩, HF.out⟩
set_option maxHeartbeats 4000000 in
theorem does_setroot_arg (H : PR w0 pp p d hd c V rb sg scap R w) (h12 : hd.pages = 12) (hc : c < 900000) (a : ActV) (hw : a.Wf) (hk : a.kind = 5 ∧ (a.at_ < 0 ∨ 16 ≤ a.at_)) :
    Calls Tryz.prog 9 #[.pointer (some ⟨pp, 0, none⟩), .pointer (some ⟨rb, 0, none⟩), .agg a.cells.toArray] w fun e w' => (∃ b, e = .returned (.bool b)) ∧ PR w0 pp p d hd (c + 2) (V) rb sg scap R w' := by
  have _h9 := hc
  obtain ⟨vn, x, hP, ht, hRr, hlo⟩ := H
  obtain ⟨g, cap, rfl, _⟩ := (show RP vn x V w from ⟨ht, hP.mem (List.mem_cons_of_mem _ List.mem_cons_self)⟩).open
  obtain ⟨W, hW⟩ : ∃ y, w.alloc (.cells a.cells.toArray 37) = y := ⟨_, rfl⟩
  have hbW : Below w.heap.size w W := by rw [← hW]; go_grown
  have hAo : W.heap[w.heap.size]? = some (.cells a.cells.toArray 37 (0, 0)) := by rw [← hW]; exact heap_alloc_new w _
  have hPW := hP.on hbW
  obtain ⟨X, hX⟩ : ∃ y, W.alloc (.cells #[.slice (some ⟨g, 0, none⟩) 12 cap, .slice (some ⟨sg, 0, none⟩) 12 scap] 32) = y := ⟨_, rfl⟩
  have hbX : Below W.heap.size W X := by rw [← hX]; go_grown
  have hNo : X.heap[W.heap.size]? = some (refO (.slice (some ⟨g, 0, none⟩) 12 cap) (.slice (some ⟨sg, 0, none⟩) 12 scap)) := by rw [← hX]; exact heap_alloc_new W _
  have hXz : X.heap.size = W.heap.size + 1 := by rw [← hX]; simp
  have hPX := hPW.add hbX (Nat.le_refl _) hNo
  have hAX := (hbX.block _ (heap_lt hAo)).trans hAo
  have hB : Box2 W rb (.slice (some ⟨g, 0, none⟩) 12 cap) (.slice (some ⟨sg, 0, none⟩) 12 scap) := ⟨hPW.mem List.mem_cons_self⟩
  have hRP : RP (.slice (some ⟨g, 0, none⟩) 12 cap) x V X := ⟨ht, hPX.mem (List.mem_cons_of_mem _ (List.mem_cons_of_mem _ List.mem_cons_self))⟩
  have s0 := hPX.size (k := 0) (by omega) (by omega)
  have s1 := hPX.size (k := 1) (by omega) (by omega)
  have hrb : rb < W.heap.size := heap_lt hB.obj
  have haw : w.heap.size < W.heap.size := heap_lt hAo
  have hxl : x.1 < W.heap.size := heap_lt (hPW.mem (List.mem_cons_of_mem _ List.mem_cons_self))
  have hRl : ∀ y ∈ R, y.1 < W.heap.size := fun y hy => heap_lt (hPW.mem (List.mem_cons_of_mem _ (List.mem_cons_of_mem _ hy)))
  have hlW : w0.heap.size ≤ W.heap.size := Nat.le_trans hlo (Nat.le_of_lt hrb)
  have hxr : x.1 ≠ rb := fun e => by
    have h1 := hPW.mem (x := x) (List.mem_cons_of_mem _ List.mem_cons_self)
    rw [e, hB.obj] at h1
    obtain ⟨g, cap, cur, _, hm, _⟩ := ht
    rw [List.mem_singleton] at hm
    rw [← hm] at h1
    injection h1 with h1
    injection h1 with _ h1
    exact absurd h1 (by decide)
  obtain ⟨wk, wa, wt, wd⟩ := hw
  have hrb0 := hB.c0
  have hrb1 := hB.c1
  have hBX := hB.on hbX
  have hrx0 := hBX.c0
  have hrx1 := hBX.c1
  obtain ⟨aw0, aw1, aw2, aw3⟩ := act_box hAo
  obtain ⟨ac0, ac1, ac2, ac3⟩ := act_box hAX
  have hkk : a.kind = 5 := hk.1
  rw [hkk] at ac0 aw0
  have HRF := Lib.hid ((hRP.on (show Below X.heap.size X X.drew by go_grown)).setRoot_arg (some ⟨sg, 0, none⟩) 12 scap a.at_ a.to_ hk.2)
  have hdr : Below X.heap.size X X.drew := by go_grown
  have hXz : X.drew.heap.size = W.heap.size + 1 := hXz
  have hPX := hPX.on hdr
  have hAX := (hdr.block _ (heap_lt hAX)).trans hAX
  have hBX := hBX.on hdr
  have hrx0 := hBX.c0
  have hrx1 := hBX.c1
  obtain ⟨ac0, ac1, ac2, ac3⟩ := act_box hAX
  rw [hkk] at ac0
  have HP := Lib.hid (And.intro hPX (And.intro ht (And.intro hRr (And.intro hlo (And.intro hAX (And.intro hRl hBX))))))
  clear hP ht hRr hbW hAo hPW hB hRP hbX hNo hPX hAX hRl hBX hdr
  go_enter Tryz.func9, Tryz.ntmps9
  go_wp2_with fail
  go_region_law (first
      | (go_simp; (with_reducible refine HRF.out.mono ?_); rintro e w2 ⟨rfl, hb2⟩
         have H1 := HP.out.1.on hb2
         have hA2 := (hb2.block _ (heap_lt HP.out.2.2.2.2.1)).trans HP.out.2.2.2.2.1
         have D2 : Box2 w2 W.heap.size (.slice (some ⟨g, 0, none⟩) 12 cap) (.slice (some ⟨sg, 0, none⟩) 12 scap) := ⟨H1.mem List.mem_cons_self⟩
         have z0 := D2.c0
         have z1 := D2.c1
         have y0 := D2.f 0
         have y1 := D2.f 1)
      | fail)
  all_goals
    have H2 := H1.setBox2 (fun y hy => by
      simp only [List.mem_cons] at hy
      rcases hy with rfl | rfl | hy
      · show rb ≠ _; omega
      · omega
      · have := HP.out.2.2.2.2.2.1 y hy; omega) hlW (.slice (some ⟨g, 0, none⟩) 12 cap) (.slice (some ⟨sg, 0, none⟩) 12 scap)
    have hA3 : ((w2.setCell ⟨W.heap.size, 0, none⟩ (.slice (some ⟨g, 0, none⟩) 12 cap)).setCell ⟨W.heap.size, 1, none⟩ (.slice (some ⟨sg, 0, none⟩) 12 scap)).heap[w.heap.size]? = some (.cells a.cells.toArray 37 (0, 0)) := (heap_setCell_other _ _ _ _ (show w.heap.size ≠ W.heap.size by omega)).trans ((heap_setCell_other _ _ _ _ (show w.heap.size ≠ W.heap.size by omega)).trans hA2)
    clear H1 hA2 hb2 D2
    clear HRF
    obtain ⟨w3, hw3⟩ : ∃ y, (w2.setCell ⟨W.heap.size, 0, none⟩ (.slice (some ⟨g, 0, none⟩) 12 cap)).setCell ⟨W.heap.size, 1, none⟩ (.slice (some ⟨sg, 0, none⟩) 12 scap) = y := ⟨_, rfl⟩
    rw [hw3] at H2 hA3
    obtain ⟨ac0, ac1, ac2, ac3⟩ := act_box hA3
    have HPF := Lib.hid (H2.setRoot_arg a.at_ a.to_ hk.2)
    clear H2 hA3 hX hW
    go_wp2_with fail
    refine HPF.out.mono ?_
    rintro e w4 ⟨rfl, H4⟩
    have E4 : Box2 w4 W.heap.size (.slice (some ⟨g, 0, none⟩) 12 cap) (.slice (some ⟨sg, 0, none⟩) 12 scap) := ⟨H4.mem List.mem_cons_self⟩
    have D4 : Box2 w4 rb (.slice (some ⟨g, 0, none⟩) 12 cap) (.slice (some ⟨sg, 0, none⟩) 12 scap) := ⟨H4.mem (List.mem_cons_of_mem _ List.mem_cons_self)⟩
    have H5 := ((H4.mono (c' := c + 2) (by omega)).sub ((rb, refO (.slice (some ⟨g, 0, none⟩) 12 cap) (.slice (some ⟨sg, 0, none⟩) 12 scap)) :: x :: R) (fun y hy => List.mem_cons_of_mem _ hy)).setBox2 (fun y hy => by
      rcases List.mem_cons.1 hy with rfl | hy
      · exact hxr
      · exact HP.out.2.2.1 y hy) HP.out.2.2.2.1 (.slice (some ⟨g, 0, none⟩) 12 cap) (.slice (some ⟨sg, 0, none⟩) 12 scap)
    have HF : Hid (PR w0 pp p d hd (c + 2) (V) rb sg scap R _) := Lib.hid ⟨_, x, H5, HP.out.2.1, HP.out.2.2.1, HP.out.2.2.2.1⟩
    have z0 := E4.c0
    have z1 := E4.c1
    have z2 := D4.c0
    have z3 := D4.c1
    have y0 := D4.f 0
    have y1 := D4.f 1
    clear H4 H5 HPF E4 D4
    go_wp2
    go_returns
    exact ⟨⟨_, rfl⟩, HF.out⟩
set_option maxHeartbeats 4000000 in
theorem does_setroot_none (H : PR w0 pp p d hd c V rb sg scap R w) (h12 : hd.pages = 12) (hc : c < 900000) (a : ActV) (hw : a.Wf) (hk : a.kind = 5 ∧ (0 ≤ a.at_ ∧ a.at_ < 16) ∧ a.to_ ≠ 0 ∧ outB 12 (V 0) a.to_ = false) :
    Calls Tryz.prog 9 #[.pointer (some ⟨pp, 0, none⟩), .pointer (some ⟨rb, 0, none⟩), .agg a.cells.toArray] w fun e w' => (∃ b, e = .returned (.bool b)) ∧ PR w0 pp p d hd (c + 2) (V) rb sg scap R w' := by
  have _h9 := hc
  obtain ⟨vn, x, hP, ht, hRr, hlo⟩ := H
  obtain ⟨g, cap, rfl, _⟩ := (show RP vn x V w from ⟨ht, hP.mem (List.mem_cons_of_mem _ List.mem_cons_self)⟩).open
  obtain ⟨W, hW⟩ : ∃ y, w.alloc (.cells a.cells.toArray 37) = y := ⟨_, rfl⟩
  have hbW : Below w.heap.size w W := by rw [← hW]; go_grown
  have hAo : W.heap[w.heap.size]? = some (.cells a.cells.toArray 37 (0, 0)) := by rw [← hW]; exact heap_alloc_new w _
  have hPW := hP.on hbW
  obtain ⟨X, hX⟩ : ∃ y, W.alloc (.cells #[.slice (some ⟨g, 0, none⟩) 12 cap, .slice (some ⟨sg, 0, none⟩) 12 scap] 32) = y := ⟨_, rfl⟩
  have hbX : Below W.heap.size W X := by rw [← hX]; go_grown
  have hNo : X.heap[W.heap.size]? = some (refO (.slice (some ⟨g, 0, none⟩) 12 cap) (.slice (some ⟨sg, 0, none⟩) 12 scap)) := by rw [← hX]; exact heap_alloc_new W _
  have hXz : X.heap.size = W.heap.size + 1 := by rw [← hX]; simp
  have hPX := hPW.add hbX (Nat.le_refl _) hNo
  have hAX := (hbX.block _ (heap_lt hAo)).trans hAo
  have hB : Box2 W rb (.slice (some ⟨g, 0, none⟩) 12 cap) (.slice (some ⟨sg, 0, none⟩) 12 scap) := ⟨hPW.mem List.mem_cons_self⟩
  have hRP : RP (.slice (some ⟨g, 0, none⟩) 12 cap) x V X := ⟨ht, hPX.mem (List.mem_cons_of_mem _ (List.mem_cons_of_mem _ List.mem_cons_self))⟩
  have s0 := hPX.size (k := 0) (by omega) (by omega)
  have s1 := hPX.size (k := 1) (by omega) (by omega)
  have hrb : rb < W.heap.size := heap_lt hB.obj
  have haw : w.heap.size < W.heap.size := heap_lt hAo
  have hxl : x.1 < W.heap.size := heap_lt (hPW.mem (List.mem_cons_of_mem _ List.mem_cons_self))
  have hRl : ∀ y ∈ R, y.1 < W.heap.size := fun y hy => heap_lt (hPW.mem (List.mem_cons_of_mem _ (List.mem_cons_of_mem _ hy)))
  have hlW : w0.heap.size ≤ W.heap.size := Nat.le_trans hlo (Nat.le_of_lt hrb)
  have hxr : x.1 ≠ rb := fun e => by
    have h1 := hPW.mem (x := x) (List.mem_cons_of_mem _ List.mem_cons_self)
    rw [e, hB.obj] at h1
    obtain ⟨g, cap, cur, _, hm, _⟩ := ht
    rw [List.mem_singleton] at hm
    rw [← hm] at h1
    injection h1 with h1
    injection h1 with _ h1
    exact absurd h1 (by decide)
  obtain ⟨wk, wa, wt, wd⟩ := hw
  have hrb0 := hB.c0
  have hrb1 := hB.c1
  have hBX := hB.on hbX
  have hrx0 := hBX.c0
  have hrx1 := hBX.c1
  obtain ⟨aw0, aw1, aw2, aw3⟩ := act_box hAo
  obtain ⟨ac0, ac1, ac2, ac3⟩ := act_box hAX
  have hkk : a.kind = 5 := hk.1
  rw [hkk] at ac0 aw0
  have HRF := Lib.hid ((hRP.on (show Below X.heap.size X X.drew by go_grown)).setRoot_none (some ⟨sg, 0, none⟩) 12 scap a.at_ a.to_ hk.2.1 s1 s0 hk.2.2.1 hk.2.2.2 wt.1 wt.2)
  have hdr : Below X.heap.size X X.drew := by go_grown
  have hXz : X.drew.heap.size = W.heap.size + 1 := hXz
  have hPX := hPX.on hdr
  have hAX := (hdr.block _ (heap_lt hAX)).trans hAX
  have hBX := hBX.on hdr
  have hrx0 := hBX.c0
  have hrx1 := hBX.c1
  obtain ⟨ac0, ac1, ac2, ac3⟩ := act_box hAX
  rw [hkk] at ac0
  have HP := Lib.hid (And.intro hPX (And.intro ht (And.intro hRr (And.intro hlo (And.intro hAX (And.intro hRl hBX))))))
  clear hP ht hRr hbW hAo hPW hB hRP hbX hNo hPX hAX hRl hBX hdr
  go_enter Tryz.func9, Tryz.ntmps9
  go_wp2_with fail
  go_region_law (first
      | (go_simp; (with_reducible refine HRF.out.mono ?_); rintro e w2 ⟨rfl, hb2⟩
         have H1 := HP.out.1.on hb2
         have hA2 := (hb2.block _ (heap_lt HP.out.2.2.2.2.1)).trans HP.out.2.2.2.2.1
         have D2 : Box2 w2 W.heap.size (.slice (some ⟨g, 0, none⟩) 12 cap) (.slice (some ⟨sg, 0, none⟩) 12 scap) := ⟨H1.mem List.mem_cons_self⟩
         have z0 := D2.c0
         have z1 := D2.c1
         have y0 := D2.f 0
         have y1 := D2.f 1)
      | fail)
  all_goals
    have H2 := H1.setBox2 (fun y hy => by
      simp only [List.mem_cons] at hy
      rcases hy with rfl | rfl | hy
      · show rb ≠ _; omega
      · omega
      · have := HP.out.2.2.2.2.2.1 y hy; omega) hlW (.slice (some ⟨g, 0, none⟩) 12 cap) (.slice (some ⟨sg, 0, none⟩) 12 scap)
    have hA3 : ((w2.setCell ⟨W.heap.size, 0, none⟩ (.slice (some ⟨g, 0, none⟩) 12 cap)).setCell ⟨W.heap.size, 1, none⟩ (.slice (some ⟨sg, 0, none⟩) 12 scap)).heap[w.heap.size]? = some (.cells a.cells.toArray 37 (0, 0)) := (heap_setCell_other _ _ _ _ (show w.heap.size ≠ W.heap.size by omega)).trans ((heap_setCell_other _ _ _ _ (show w.heap.size ≠ W.heap.size by omega)).trans hA2)
    clear H1 hA2 hb2 D2
    clear HRF
    obtain ⟨w3, hw3⟩ : ∃ y, (w2.setCell ⟨W.heap.size, 0, none⟩ (.slice (some ⟨g, 0, none⟩) 12 cap)).setCell ⟨W.heap.size, 1, none⟩ (.slice (some ⟨sg, 0, none⟩) 12 scap) = y := ⟨_, rfl⟩
    rw [hw3] at H2 hA3
    obtain ⟨ac0, ac1, ac2, ac3⟩ := act_box hA3
    have HPF := Lib.hid (H2.setRoot_none a.at_ a.to_ hk.2.1 (by omega) hk.2.2.1 (by rw [h12]; exact hk.2.2.2) wt.1 wt.2)
    clear H2 hA3 hX hW
    go_wp2_with fail
    refine HPF.out.mono ?_
    rintro e w4 ⟨rfl, H4⟩
    have E4 : Box2 w4 W.heap.size (.slice (some ⟨g, 0, none⟩) 12 cap) (.slice (some ⟨sg, 0, none⟩) 12 scap) := ⟨H4.mem List.mem_cons_self⟩
    have D4 : Box2 w4 rb (.slice (some ⟨g, 0, none⟩) 12 cap) (.slice (some ⟨sg, 0, none⟩) 12 scap) := ⟨H4.mem (List.mem_cons_of_mem _ List.mem_cons_self)⟩
    have H5 := ((H4.mono (c' := c + 2) (by omega)).sub ((rb, refO (.slice (some ⟨g, 0, none⟩) 12 cap) (.slice (some ⟨sg, 0, none⟩) 12 scap)) :: x :: R) (fun y hy => List.mem_cons_of_mem _ hy)).setBox2 (fun y hy => by
      rcases List.mem_cons.1 hy with rfl | hy
      · exact hxr
      · exact HP.out.2.2.1 y hy) HP.out.2.2.2.1 (.slice (some ⟨g, 0, none⟩) 12 cap) (.slice (some ⟨sg, 0, none⟩) 12 scap)
    have HF : Hid (PR w0 pp p d hd (c + 2) (V) rb sg scap R _) := Lib.hid ⟨_, x, H5, HP.out.2.1, HP.out.2.2.1, HP.out.2.2.2.1⟩
    have z0 := E4.c0
    have z1 := E4.c1
    have z2 := D4.c0
    have z3 := D4.c1
    have y0 := D4.f 0
    have y1 := D4.f 1
    clear H4 H5 HPF E4 D4
    go_wp2
    go_returns
    exact ⟨⟨_, rfl⟩, HF.out⟩
end
end Go.Proofs.YtcoebinljdjemaaGreat
namespace Go.Proofs.YtcoebinljdjemaaGreat
set_option maxRecDepth 100000
open Go.ChangeShapes Go.WideShapes Go.ChangeAt Go.RowKit Go.PlainAid
open Go.Sort (grow)

/-- There is a least number, or none. -/
theorem least_or (s : ByteArray) (f t : Int) : (∃ v, Least s f t v) ∨ ∀ l, ¬ LowP s f t l := by
  by_cases h : ∃ l, LowP s f t l
  · obtain ⟨l, hl⟩ := h
    refine .inl ?_
    have key : ∀ (n : Nat) (l : Int), l.toNat < n → LowP s f t l → ∃ v, Least s f t v := by
      intro n
      induction n with
      | zero => intro l hl; omega
      | succ n ih =>
        intro l hn hl
        by_cases h : ∃ m, m < l ∧ LowP s f t m
        · obtain ⟨m, hm, hp⟩ := h
          have h0 := hp.2.1
          have h1 := hl.2.1
          exact ih m (by omega) hp
        · exact ⟨l, hl, fun m hm hp => h ⟨m, hm, hp⟩⟩
    exact key _ l (Nat.lt_succ_self _) hl
  · exact .inr fun l hl => h ⟨l, hl⟩
section
variable {w0 w : World} {pp p c rb sg scap : Nat} {d : D} {hd : Hd} {V : Int → ByteArray} {R : List (Nat × Obj)}
theorem does_any (H : PR w0 pp p d hd c V rb sg scap R w) (h12 : hd.pages = 12) (hc : c < 900000) (a : ActV) (hw : a.Wf) (hk : a.kind < 6) (hz : a.data.size ≤ 2000) :
    Calls Tryz.prog 9 #[.pointer (some ⟨pp, 0, none⟩), .pointer (some ⟨rb, 0, none⟩), .agg a.cells.toArray] w fun e w' => (∃ b, e = .returned (.bool b)) ∧ ∃ V', PR w0 pp p d hd (c + 2) V' rb sg scap R w' := by
  have fin : ∀ {V'}, Calls Tryz.prog 9 #[.pointer (some ⟨pp, 0, none⟩), .pointer (some ⟨rb, 0, none⟩), .agg a.cells.toArray] w (fun e w' => (∃ b, e = .returned (.bool b)) ∧ PR w0 pp p d hd (c + 2) V' rb sg scap R w') →
      Calls Tryz.prog 9 #[.pointer (some ⟨pp, 0, none⟩), .pointer (some ⟨rb, 0, none⟩), .agg a.cells.toArray] w fun e w' => (∃ b, e = .returned (.bool b)) ∧ ∃ V', PR w0 pp p d hd (c + 2) V' rb sg scap R w' := fun h => h.mono fun e w' ⟨h1, h2⟩ => ⟨h1, _, h2⟩
  have hcs : a.kind < 0 ∨ a.kind = 0 ∨ a.kind = 1 ∨ a.kind = 2 ∨ a.kind = 3 ∨ a.kind = 4 ∨ a.kind = 5 := by omega
  have ho : ∀ k, outB 12 (V 0) k = true ∨ outB 12 (V 0) k = false := fun k => by cases outB 12 (V 0) k <;> simp
  have hi : (0 ≤ a.at_ ∧ a.at_ < 16) ∨ (a.at_ < 0 ∨ 16 ≤ a.at_) := by omega
  rcases hcs with h | h | h | h | h | h | h
  · exact fin (does_format H h12 hc a hw h)
  · rcases least_or (V 0) 2 (12 : Nat) with ⟨v, hv⟩ | hv
    · exact fin (does_alloc H h12 hc a hw v ⟨h, hv⟩)
    · exact fin (does_alloc_no H h12 hc a hw ⟨h, hv⟩)
  · rcases ho a.at_ with o | o
    · exact fin (does_free H h12 hc a hw ⟨h, o⟩)
    · exact fin (does_free_no H h12 hc a hw ⟨h, o⟩)
  · rcases ho a.at_ with o | o
    · exact fin (does_get H h12 hc a hw ⟨h, o⟩)
    · exact fin (does_get_no H h12 hc a hw ⟨h, o⟩)
  · rcases ho a.at_ with o | o
    · rcases Nat.lt_or_ge 256 a.data.size with b | b
      · exact fin (does_big H h12 hc a hw ⟨h, o, b, hz⟩)
      · exact fin (does_set H h12 hc a hw ⟨h, o, b⟩)
    · exact fin (does_set_no H h12 hc a hw ⟨h, o⟩)
  · rcases hi with i | i
    · exact fin (does_root H h12 hc a hw ⟨h, i⟩)
    · exact fin (does_root_no H h12 hc a hw ⟨h, i⟩)
  · rcases hi with i | i
    · rcases Int.lt_trichotomy a.to_ 0 with z | z | z
      · rcases ho a.to_ with o | o
        · exact fin (does_setroot H h12 hc a hw ⟨h, i, fun _ => o⟩)
        · exact fin (does_setroot_none H h12 hc a hw ⟨h, i, by omega, o⟩)
      · exact fin (does_setroot H h12 hc a hw ⟨h, i, fun q => absurd z q⟩)
      · rcases ho a.to_ with o | o
        · exact fin (does_setroot H h12 hc a hw ⟨h, i, fun _ => o⟩)
        · exact fin (does_setroot_none H h12 hc a hw ⟨h, i, by omega, o⟩)
    · exact fin (does_setroot_arg H h12 hc a hw ⟨h, i⟩)
end
end Go.Proofs.YtcoebinljdjemaaGreat
namespace Go.Proofs.YtcoebinljdjemaaGreat
set_option maxRecDepth 100000
open Go.ChangeShapes Go.WideShapes Go.ChangeAt Go.RowKit Go.PlainAid
open Go.Sort (grow)

theorem pgs_congr {V V' : Int → ByteArray} (h : ∀ k : Int, 0 ≤ k → k < 12 → V' k = V k) : pgs V' = pgs V := by
  unfold pgs
  apply List.map_congr_left
  intro i hi
  have := List.mem_range.1 hi
  exact h i (by omega) (by omega)
/-- The pages of a new store. -/
theorem new_pages (k : Int) (hk : 0 ≤ k) : pageS (formatted (newD 64) 50) (firstHd 64 50) noPages k = filled ⟨#[]⟩ := by
  rw [filled_empty]
  unfold pageS
  refine formatted_last 64 50 (by omega) ?_
  have : (firstHd 64 50).room = 50 := rfl
  rw [this]
  omega
theorem pgs_fmt : pgs (fmtV emptyV) = pgs (fmtV fun k => pageS (formatted (newD 64) 50) (firstHd 64 50) noPages k) := by
  refine pgs_congr fun k h0 _ => ?_
  unfold fmtV updV
  simp only [new_pages k h0]
  rfl
/-- A settled disk when the power goes: nothing is otherwise. -/
theorem Settled.crashed {d : D} {h : Hd} {o : Option Hd} (S : Settled d h o) (m t c : Int) : Settled (d.crash m t c) h o ∧ (d.crash m t c).last = d.last := by
  have hl : (d.crash m t c).last = d.last := by
    have h1 := S.late
    unfold D.crash D.last
    rw [h1]
    rfl
  exact ⟨⟨⟨rfl, rfl⟩, rfl, S.n, S.hi, S.used, by rw [hl]; exact S.cur, by rw [hl]; exact S.oth, S.less⟩, hl⟩
theorem texts_sub {v : Value} {R R' : List (Nat × Obj)} {l : List ByteArray} (h : TextsR v R l) (hs : ∀ x ∈ R, x ∈ R') : TextsR v R' l := h.mono hs
set_option maxHeartbeats 1000000 in
theorem rsame_any {R : List (Nat × Obj)} {va vb : Value} {la lb : List ByteArray} (ha : TextsR va R la) (hb : TextsR vb R lb) (he : la = lb) (hn : la.length ≤ 1000000) (w : World) (hw : ∀ y ∈ R, w.heap[y.1]? = some y.2) :
    Calls Tryz.prog 15 #[va, vb] w fun e w' => e = .returned (.bool true) ∧ Below w.heap.size w w' := by
  subst he
  obtain ⟨ga, ca, rfl, hca⟩ := ha.open hw
  obtain ⟨gb, cb, rfl, hcb⟩ := hb.open hw
  have HCA := Lib.hid hca
  have HCB := Lib.hid hcb
  clear ha hb hca hcb hw
  go_enter Tryz.func15, Tryz.ntmps15
  go_wp2_with fail
  go_loopw [5] (fun i wr => ∃ k : Nat, k ≤ la.length ∧ i = .int .i64 k ∧ Below w.heap.size w wr) (fun i _ => la.length - (intOf i).toNat)
  case atStart => exact ⟨0, Nat.zero_le _, rfl, Below.refl _ _⟩
  case round =>
    obtain ⟨k, hk, rfl, hB⟩ := hrel
    have HB := Lib.hid hB
    clear hB
    by_cases hlt : k < la.length
    · obtain ⟨x, hx⟩ : ∃ x, la[k]? = some x := ⟨_, List.getElem?_eq_getElem hlt⟩
      have h1 := HCA.out k x hx
      have h2 := HCB.out k x hx
      have c1 := (HB.out.cell (p := ⟨ga, k, none⟩) (World.block_lt_of_cell? w _ h1)).trans h1
      have c2 := (HB.out.cell (p := ⟨gb, k, none⟩) (World.block_lt_of_cell? w _ h2)).trans h2
      clear h1 h2 hx
      go_wp2_with fail
      go_quiet (fail)
      have HB2 : Hid (Below w.heap.size w (wr.drewN nq)) := HB.out.trans ⟨rfl, rfl, rfl, Nat.le_refl _, fun _ _ => rfl⟩
      clear HB c1 c2
      go_wp2
      go_roundw
      case rel => exact ⟨k + 1, by omega, by go_num, HB2.out⟩
      case measure => simp [intOf]; omega
    · obtain rfl : k = la.length := by omega
      go_wp2
      go_returns
      exact ⟨rfl, HB.out⟩
end Go.Proofs.YtcoebinljdjemaaGreat
