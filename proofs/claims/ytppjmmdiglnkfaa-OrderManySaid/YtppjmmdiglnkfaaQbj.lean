/- Package order: arrange. -/
import Derived.Test.YtppjmmdiglnkfaaQaz
import Derived.Test.YtppjmmdiglnkfaaQbi
import Derived.Test.YtppjmmdiglnkfaaQaq
namespace Go.Proofs.Ytppjmmdiglnkfaa
set_option maxRecDepth 100000
open Go.ChangeShapes Go.WideShapes Go.ChangeAt Go.RowKit Go.PlainAid Go.Deep
namespace Od
open Ln Cu
attribute [local go_sem ↓ high] load_op store_o
def cfId (a b : OpV) : Int := cmpZ a.id b.id
theorem id_lt {a b : OpV} : cfId a b < 0 ↔ a.id < b.id := by unfold cfId; rw [cmp_lt]
theorem ord_id : Ord3 (ltO cfId) := ⟨fun x y z h1 h2 => by
  rw [lt_no, id_lt] at *
  omega, fun x y h => by
  rw [lt_yes, id_lt] at h
  rw [lt_no, id_lt]
  omega⟩
set_option maxHeartbeats 1000000 in
theorem byId_any (a b : OpV) (w : World) : Calls Try.prog 61 #[Value.agg #[Value.int .i64 a.id, Value.int .i64 a.proc, Value.int .i64 a.obj, Value.int .i64 a.kind, Value.int .i64 a.meth, Value.int .i64 a.arg, Value.int .i64 a.sec, Value.bool a.done, Value.int .i64 a.res, Value.int .i64 a.inv, Value.int .i64 a.ret], Value.agg #[Value.int .i64 b.id, Value.int .i64 b.proc, Value.int .i64 b.obj, Value.int .i64 b.kind, Value.int .i64 b.meth, Value.int .i64 b.arg, Value.int .i64 b.sec, Value.bool b.done, Value.int .i64 b.res, Value.int .i64 b.inv, Value.int .i64 b.ret]] w fun e w' => e = .returned (.int .i64 (cfId a b)) ∧ Below w.heap.size w w' := by
  go_enter Try.func61, Try.ntmps61
  go_wp2_with fail
  refine (compare_any a.id b.id _).mono ?_
  rintro _ _ ⟨rfl, rfl⟩
  go_wp2_with fail
  go_returns
  exact ⟨rfl, by go_grown⟩
theorem cmp_id : Cmp 61 cfId := ⟨fun args w => by simp [go_sem], byId_any, ord_id⟩
def pcO (v va : Value) (dn : Nat) : Obj := .cells #[v, va, .int .u32 (dn : Int)] 70 (0, 0)
theorem pc_set {Wx : World} {b : Nat} {c0 c1 c2 : Value} (x y z : Value) (h : Wx.heap[b]? = some (.cells #[c0, c1, c2] 70 (0, 0))) :
    (((Wx.setCell ⟨b, 0, none⟩ x).setCell ⟨b, 1, none⟩ y).setCell ⟨b, 2, none⟩ z).heap[b]? = some (.cells #[x, y, z] 70 (0, 0)) ∧ Keeps (fun k => k = b) Wx (((Wx.setCell ⟨b, 0, none⟩ x).setCell ⟨b, 1, none⟩ y).setCell ⟨b, 2, none⟩ z) :=
  ⟨heap_setCell_same _ _ _ _ _ _ (heap_setCell_same _ _ _ _ _ _ (heap_setCell_same _ _ _ _ _ _ h)), (((Keeps.refl (fun k => k = b) Wx).setCell (.inl (by rfl)) _).setCell (.inl (by rfl)) _).setCell (.inl (by rfl)) _⟩
/-- What arrange has in memory. -/
structure ArI (w W : World) (v : Value) (l : List OpV) (d i j dn : Nat) (ah : List Nat) : Prop where
  bel : Below w.heap.size w W
  bs : W.heap[w.heap.size + 1]? = some (pcO v (.slice (some ⟨w.heap.size, 0, none⟩) ah.length ah.length) dn)
  ba : W.heap[w.heap.size]? = some (ahO ah)
  len : ah.length = l.length
  dn : Mk dn fun k => decide (k < d) && doneP l k
  lo : ∀ k a, k < i → ah[k]? = some a → Mk a (befP l k)
  mid : ∀ a, ah[i]? = some a → Mk a fun k => decide (k < j) && befP l i k
  hi : ∀ k a, i < k → ah[k]? = some a → a = 0
theorem ArI.on {w W W' : World} {v : Value} {l : List OpV} {d i j dn : Nat} {ah : List Nat} (h : ArI w W v l d i j dn ah) (hb : Below W.heap.size W W') : ArI w W' v l d i j dn ah :=
  ⟨h.bel.on hb, (hb.block _ (heap_inO h.bs)).trans h.bs, (hb.block _ (heap_inO h.ba)).trans h.ba, h.len, h.dn, h.lo, h.mid, h.hi⟩
theorem ArI.skipD {w W : World} {v : Value} {l : List OpV} {i j dn d : Nat} {ah : List Nat} (h : ArI w W v l d i j dn ah) (hd : doneP l d = false) : ArI w W v l (d + 1) i j dn ah :=
  ⟨h.bel, h.bs, h.ba, h.len, h.dn.of fun k => by
    by_cases c : k < d
    · simp [c, show k < d + 1 by omega]
    · by_cases c2 : k = d
      · subst c2; simp [hd]
      · simp [c, show ¬ k < d + 1 by omega], h.lo, h.mid, h.hi⟩
theorem ArI.setD {w W : World} {v : Value} {l : List OpV} {i j dn d : Nat} {ah : List Nat} (h : ArI w W v l d i j dn ah) (hd : doneP l d = true) (hl : d < 16) : ArI w (W.setCell ⟨w.heap.size + 1, 2, none⟩ (.int .u32 ((dn ||| 2 ^ d : Nat) : Int))) v l (d + 1) i j (dn ||| 2 ^ d) ah := by
  have hk : Keeps (fun k => k = w.heap.size + 1) W (W.setCell ⟨w.heap.size + 1, 2, none⟩ (.int .u32 ((dn ||| 2 ^ d : Nat) : Int))) := (Keeps.refl (fun k => k = w.heap.size + 1) W).setCell (.inl (by rfl)) _
  refine ⟨h.bel.trans (hk.below (fun k e => by omega) h.bel.size), heap_setCell_same _ _ _ _ _ _ h.bs, (hk.block _ (heap_inO h.ba) (by omega)).trans h.ba, h.len, (h.dn.set hl).of fun k => ?_, h.lo, h.mid, h.hi⟩
  by_cases c : k < d
  · simp [c, show k < d + 1 by omega, show k ≠ d by omega]
  · by_cases c2 : k = d
    · subst c2; simp [hd]
    · simp [c, c2, show ¬ k < d + 1 by omega]
theorem ArI.skipJ {w W : World} {v : Value} {l : List OpV} {i j dn d : Nat} {ah : List Nat} (h : ArI w W v l d i j dn ah) (hd : befP l i j = false) : ArI w W v l d i (j + 1) dn ah :=
  ⟨h.bel, h.bs, h.ba, h.len, h.dn, h.lo, fun a ha => (h.mid a ha).of fun k => by
    by_cases c : k < j
    · simp [c, show k < j + 1 by omega]
    · by_cases c2 : k = j
      · subst c2; simp [hd]
      · simp [c, show ¬ k < j + 1 by omega], h.hi⟩
theorem ArI.setJ {w W : World} {v : Value} {l : List OpV} {i j dn d a : Nat} {ah : List Nat} (h : ArI w W v l d i j dn ah) (ha : ah[i]? = some a) (hd : befP l i j = true) (hl : j < 16) : ArI w (W.setCell ⟨w.heap.size, i, none⟩ (.int .u32 ((a ||| 2 ^ j : Nat) : Int))) v l d i (j + 1) dn (ah.set i (a ||| 2 ^ j)) := by
  have hk : Keeps (fun k => k = w.heap.size) W (W.setCell ⟨w.heap.size, i, none⟩ (.int .u32 ((a ||| 2 ^ j : Nat) : Int))) := (Keeps.refl (fun k => k = w.heap.size) W).setCell (.inl (by rfl)) _
  have hil : i < ah.length := (List.getElem?_eq_some_iff.1 ha).1
  refine ⟨h.bel.trans (hk.below (fun k e => by omega) h.bel.size), ?_, ?_, by rw [List.length_set]; exact h.len, h.dn, fun k b hki hb => ?_, fun b hb => ?_, fun k b hki hb => ?_⟩
  · rw [List.length_set]
    exact (hk.block _ (heap_inO h.bs) (by omega)).trans h.bs
  · have := heap_setCell_same W w.heap.size i _ _ (.int .u32 ((a ||| 2 ^ j : Nat) : Int)) h.ba
    rw [ahO_set] at this
    exact this
  · rw [List.getElem?_set_ne (by omega)] at hb
    exact h.lo k b hki hb
  · rw [List.getElem?_set_self hil] at hb
    obtain rfl := Option.some.inj hb
    refine ((h.mid a ha).set hl).of fun k => ?_
    by_cases c : k < j
    · simp [c, show k < j + 1 by omega, show k ≠ j by omega]
    · by_cases c2 : k = j
      · subst c2; simp [hd]
      · simp [c, c2, show ¬ k < j + 1 by omega]
  · rw [List.getElem?_set_ne (by omega)] at hb
    exact h.hi k b hki hb
theorem ArI.next {w W : World} {v : Value} {l : List OpV} {i dn d : Nat} {ah : List Nat} (h : ArI w W v l d i l.length dn ah) : ArI w W v l d (i + 1) 0 dn ah :=
  ⟨h.bel, h.bs, h.ba, h.len, h.dn, fun k a hk ha => by
    by_cases c : k < i
    · exact h.lo k a c ha
    · obtain rfl : k = i := by omega
      refine (h.mid a ha).of fun j => ?_
      by_cases c : j < l.length
      · simp [c]
      · rw [befP_far (by omega)]; simp [c], fun a ha => by rw [h.hi (i + 1) a (by omega) ha]; exact Mk.zero.of fun k => by simp, fun k a hk ha => h.hi k a (by omega) ha⟩
set_option maxHeartbeats 8000000 in
theorem arrange_any {n₀ : Nat} {u : Value} {L : List OpV} {w0 : World} (h : OpsOwn n₀ w0 u L) (h0 : 0 < L.length) (hwf : ∀ o ∈ L, o.Wf) (hl : L.length ≤ 16) :
    Calls Try.prog 32 #[u] w0 fun e w' => ∃ va vd S, e = .returned (.agg #[u, va, vd]) ∧ S.Perm L ∧ (S.Pairwise fun x y => ltO cfId y x = false) ∧ Pc w' S u va vd ∧ OpsOwn n₀ w' u S ∧ Keeps (fun k => u.ownBlock = some k) w0 w' := by
  obtain ⟨g, cap, cur, rfl, hng, hg, hlc, hcm, hsz, hrow⟩ := h.row h0
  have hb0 : Below w0.heap.size w0 (w0.alloc (.cells #[.slice none 0 0, .slice none 0 0, .int .u32 0] 70)) := by go_grown
  have hz0 := heap_alloc_new w0 (.cells #[.slice none 0 0, .slice none 0 0, .int .u32 0] 70)
  have hs0 := World.size_alloc w0 (.cells #[.slice none 0 0, .slice none 0 0, .int .u32 0] 70)
  obtain ⟨W1, hW1⟩ : ∃ W, w0.alloc (.cells #[.slice none 0 0, .slice none 0 0, .int .u32 0] 70) = W := ⟨_, rfl⟩
  rw [hW1] at hb0 hz0 hs0
  have hg1 := (hb0.block g (heap_inO hg)).trans hg
  have HS := Lib.hid (sortStable_any cmp_id (⟨⟨cur, hg1, hsz, hrow⟩, hlc⟩ : InRow W1 g cap L) rfl (by omega))
  have HG := Lib.hid (And.intro hng hcm)
  have HB0 := Lib.hid (And.intro hb0 (And.intro hz0 (And.intro hs0 (heap_inO hg))))
  have HWF := Lib.hid hwf
  have hcap : L.length ≤ 16 := hl
  clear h hng hg hlc hcm hsz hrow hg1 hb0 hz0 hs0 hwf
  go_enter Try.func32, Try.ntmps32
  go_wp2_with fail
  refine HS.out.mono ?_
  rintro _ w ⟨rfl, l, hr, hn, ⟨hp, hs⟩, hk⟩
  clear HS
  have hwl : ∀ o ∈ l, o.Wf := fun o ho => HWF.out o (hp.mem_iff.1 ho)
  have ho := own_of hr HG.out.1 HG.out.2
  rw [hn] at ho
  have hh : OpsOf w (.slice (some ⟨g, 0, none⟩) l.length cap) l := by have := ho.reads hwl; rw [← hn] at this; exact this
  have hn' : (L.length : Int) = (l.length : Int) := by omega
  have hlen2 : l.length ≤ 16 := by omega
  have H := Lib.hid hh
  have HP := Lib.hid (And.intro hp (And.intro (sr_pair hs (by omega)) (And.intro ho (And.intro hk (And.intro hwl hn)))))
  have mk := make_u32 l.length (by omega) w
  obtain ⟨W0, hW0⟩ : ∃ W, (w.alloc (ahO (List.replicate l.length 0))).alloc (.cells #[.slice (some ⟨g, 0, none⟩) l.length cap, .slice (some ⟨w.heap.size, 0, none⟩) l.length l.length, .int .u32 0] 70) = W := ⟨_, rfl⟩
  have hi0 : ArI w W0 (.slice (some ⟨g, 0, none⟩) l.length cap) l 0 0 0 0 (List.replicate l.length 0) := by
    rw [← hW0]
    have s1 := heap_alloc_new w (ahO (List.replicate l.length 0))
    have s2 := heap_alloc_new (w.alloc (ahO (List.replicate l.length 0))) (.cells #[.slice (some ⟨g, 0, none⟩) l.length cap, .slice (some ⟨w.heap.size, 0, none⟩) l.length l.length, .int .u32 0] 70)
    simp only [World.size_alloc] at s2
    refine ⟨by go_grown, by rw [List.length_replicate]; exact s2, ?_, List.length_replicate, Mk.zero.of fun k => by simp, fun k a hk => by omega, fun a ha => ?_, fun k a _ ha => ?_⟩
    · exact (Below.heap_alloc _ _ _ (by simp only [World.size_alloc]; omega)).trans s1
    · rw [(List.mem_replicate.1 (List.mem_of_getElem? ha)).2]; exact Mk.zero.of fun k => by simp
    · exact (List.mem_replicate.1 (List.mem_of_getElem? ha)).2
  have HI0 := Lib.hid hi0
  rw [show (Value.slice (some ⟨g, 0, none⟩) L.length cap) = .slice (some ⟨g, 0, none⟩) l.length cap by rw [hn]]
  obtain ⟨al, hal⟩ : ∃ al : Option Addr, some ⟨g, 0, none⟩ = al := ⟨_, rfl⟩
  obtain ⟨cl, hcl⟩ : ∃ cl, cap = cl := ⟨_, rfl⟩
  rw [hal, hcl] at H HI0 hW0 ⊢
  have HAL := Lib.hid (And.intro hal hcl)
  have HW0 := Lib.hid hW0
  clear hi0 hp hs hk hr ho hh hwl hn hal hcl hn' hW0
  go_wp2_with fail
  rw [HW0.out]
  go_loopw [17] (fun s17 wr => ∃ (i dn : Nat) (ah : List Nat), s17 = .int .i64 i ∧ i ≤ l.length ∧ Hid (ArI w wr (.slice al l.length cl) l i i 0 dn ah)) (fun s17 _ => l.length - (intOf s17).toNat)
  case atStart => exact ⟨0, 0, _, rfl, Nat.zero_le _, HI0⟩
  case round =>
    clear HI0 HW0 mk
    obtain ⟨i, dn, ah, rfl, hi, HI⟩ := hrel
    rename World => wq
    by_cases hil : i < l.length
    · have q1 : (i : Int) < (l.length : Int) := by omega
      have q2 : IntKind.i64.wrap ((i : Int) + 1) = (i : Int) + 1 := IntWalk.i64_in _ (by omega)
      have q3 : (0 : Int) ≤ i := by omega
      have q4 : (i : Int) ≤ 32 := by omega
      have q5 := wrap_pow (i := i) (by omega)
      obtain ⟨o, hok⟩ : ∃ o, l[i]? = some o := ⟨_, List.getElem?_eq_getElem hil⟩
      obtain ⟨b, p, cap, hv, hblt, hwf, hc⟩ := OpsOf.at (H.out.on HI.out.bel) hok
      obtain rfl : al = some ⟨b, p, none⟩ := by cases hv; rfl
      have l1 := load_cellsO (p := p + i * 11) hc
      have HO := Lib.hid hok
      have st := store_op_new wq (#[Value.int .i64 0, Value.int .i64 0, Value.int .i64 0, Value.int .i64 0, Value.int .i64 0, Value.int .i64 0, Value.int .i64 0, Value.bool false, Value.int .i64 0, Value.int .i64 0, Value.int .i64 0]) rfl o
      have hbw : Below wq.heap.size wq (wq.alloc (.cells #[Value.int .i64 o.id, Value.int .i64 o.proc, Value.int .i64 o.obj, Value.int .i64 o.kind, Value.int .i64 o.meth, Value.int .i64 o.arg, Value.int .i64 o.sec, Value.bool o.done, Value.int .i64 o.res, Value.int .i64 o.inv, Value.int .i64 o.ret] 43)) := by go_grown
      have hop := OpAt.box wq o
      obtain ⟨W1, hW1⟩ : ∃ W, wq.alloc (.cells #[Value.int .i64 o.id, Value.int .i64 o.proc, Value.int .i64 o.obj, Value.int .i64 o.kind, Value.int .i64 o.meth, Value.int .i64 o.arg, Value.int .i64 o.sec, Value.bool o.done, Value.int .i64 o.res, Value.int .i64 o.inv, Value.int .i64 o.ret] 43) = W := ⟨_, rfl⟩
      rw [hW1] at hop st hbw
      have HI1 := Lib.hid (HI.out.on hbw)
      have HP := Lib.hid hop
      have k7 : W1.cell? ⟨wq.heap.size, 7, none⟩ = some (.bool o.done) := by rw [cell_of_row _ _ _ _ _ _ hop]; rfl
      have hlt1 := heap_inO hop
      have HBR := Lib.hid HI.out.bel.size
      have hne : w.heap.size + 1 ≠ wq.heap.size := by have := heap_inO HI.out.bs; omega
      have hne2 : w.heap.size ≠ wq.heap.size := by have := heap_inO HI.out.bs; omega
      clear hv hblt hwf hc hok hbw hop HI
      cases hdn : o.done with
      | false =>
        have hk7 : W1.cell? ⟨wq.heap.size, 7, none⟩ = some (.bool false) := by rw [k7, hdn]
        have HI2 := Lib.hid (HI1.out.skipD (show doneP l i = false by unfold doneP; rw [HO.out]; exact hdn))
        clear k7 hdn HI1
        have HP2 := HP
        go_wp2_with fail
        go_loopw [32] (fun s32 wr => ∃ (j : Nat) (ah2 : List Nat), s32 = .int .i64 j ∧ j ≤ l.length ∧ Hid (ArI w wr (.slice (some ⟨b, p, none⟩) l.length cl) l (i + 1) i j dn ah2) ∧ Hid (OpAt wr wq.heap.size o)) (fun s32 _ => l.length - (intOf s32).toNat)
        case atStart => exact ⟨0, ah, rfl, Nat.zero_le _, HI2, HP2⟩
        case round =>
          clear HI2 HP2
          obtain ⟨j, ah2, rfl, hj, HJ, HPJ⟩ := hrel
          by_cases hjl : j < l.length
          · have r1 : (j : Int) < (l.length : Int) := by omega
            have r2 : IntKind.i64.wrap ((j : Int) + 1) = (j : Int) + 1 := IntWalk.i64_in _ (by omega)
            have r3 : (0 : Int) ≤ j := by omega
            have r4 : (j : Int) ≤ 32 := by omega
            have r5 := wrap_pow (i := j) (by omega)
            obtain ⟨x, hxk⟩ : ∃ x, l[j]? = some x := ⟨_, List.getElem?_eq_getElem hjl⟩
            obtain ⟨b', p', cap', hv, _, _, hc⟩ := OpsOf.at (H.out.on HJ.out.bel) hxk
            obtain ⟨rfl, rfl⟩ : b = b' ∧ p = p' := by cases hv; exact ⟨rfl, rfl⟩
            have l2 := load_cellsO (p := p + j * 11) hc
            have st := store_op_new wr (#[Value.int .i64 0, Value.int .i64 0, Value.int .i64 0, Value.int .i64 0, Value.int .i64 0, Value.int .i64 0, Value.int .i64 0, Value.bool false, Value.int .i64 0, Value.int .i64 0, Value.int .i64 0]) rfl x
            have hbw : Below wr.heap.size wr (wr.alloc (.cells #[Value.int .i64 x.id, Value.int .i64 x.proc, Value.int .i64 x.obj, Value.int .i64 x.kind, Value.int .i64 x.meth, Value.int .i64 x.arg, Value.int .i64 x.sec, Value.bool x.done, Value.int .i64 x.res, Value.int .i64 x.inv, Value.int .i64 x.ret] 43)) := by go_grown
            have hop := OpAt.box wr x
            have hpj := HPJ.out.on hbw
            have hij := HJ.out.on hbw
            obtain ⟨W3, hW3⟩ : ∃ W, wr.alloc (.cells #[Value.int .i64 x.id, Value.int .i64 x.proc, Value.int .i64 x.obj, Value.int .i64 x.kind, Value.int .i64 x.meth, Value.int .i64 x.arg, Value.int .i64 x.sec, Value.bool x.done, Value.int .i64 x.res, Value.int .i64 x.inv, Value.int .i64 x.ret] 43) = W := ⟨_, rfl⟩
            rw [hW3] at hop st hbw hpj hij
            have l3 := hop.load
            have l4 := hpj.load
            have HIJ := Lib.hid hij
            have HPJ3 := Lib.hid hpj
            obtain ⟨a, hia⟩ : ∃ a, ah2[i]? = some a := ⟨_, List.getElem?_eq_getElem (by rw [hij.len]; exact hil)⟩
            have hba : befP l i j = befB x o := by unfold befP; rw [hxk, HO.out]
            have HIA := Lib.hid hia
            have hail : i < ah2.length := by rw [hij.len]; exact hil
            have hma := (hij.mid a hia).lt
            clear hv hc hxk hbw hop hpj hij HJ HPJ
            cases hb : befB x o with
            | false =>
              have HBA := Lib.hid (hba.trans hb)
              go_wp2_with fail
              refine (before_any x o _).mono ?_
              rintro _ w4 ⟨rfl, hb4⟩
              rw [hb]
              have HE := Lib.hid (ArI.skipJ (HIJ.out.on hb4) HBA.out)
              have HPE := Lib.hid (HPJ3.out.on hb4)
              clear hb4 hb hba hia l2 l3 l4 st
              go_wp2_with fail
              go_roundw
              case measure => simp [intOf] <;> omega
              case rel => exact ⟨j + 1, ah2, by simp, by omega, HE, HPE⟩
            | true =>
              have HBA := Lib.hid (hba.trans hb)
              go_wp2_with fail
              refine (before_any x o _).mono ?_
              rintro _ w4 ⟨rfl, hb4⟩
              rw [hb]
              have hI4 := HIJ.out.on hb4
              have hP4 := HPJ3.out.on hb4
              have d1 : w4.cell? ⟨w.heap.size + 1, 1, none⟩ = some (.slice (some ⟨w.heap.size, 0, none⟩) ah2.length ah2.length) := by rw [cell_of_row _ _ _ _ _ _ hI4.bs]; rfl
              have d2 : w4.cell? ⟨w.heap.size, i, none⟩ = some (.int .u32 (a : Int)) := by
                have := hI4.ba
                unfold ahO at this
                rw [cell_of_row _ _ _ _ _ _ this]
                simp [HIA.out]
              have d3 := cells_thaw hI4.ba i
              have e4 : bits .or .u32 (a : Int) ((2 : Int) ^ j) = ((a ||| 2 ^ j : Nat) : Int) := by rw [pow_int]; exact or_u32 _ _ (by omega) (pow_lt16 (by omega))
              have r6 : (i : Int) < (ah2.length : Int) := by omega
              have HE := Lib.hid (ArI.setJ (W := w4.drew) (hI4.on (Below.refl _ _).drew) HIA.out HBA.out (by omega))
              have HPE := Lib.hid (show OpAt (w4.drew.setCell ⟨w.heap.size, i, none⟩ (.int .u32 ((a ||| 2 ^ j : Nat) : Int))) wq.heap.size o from (heap_setCell_other _ _ _ _ (show wq.heap.size ≠ w.heap.size by omega)).trans hP4)
              clear hb4 hb hba hia l2 l3 l4 st hI4 hP4
              go_wp2_with fail
              go_region
              go_wp2_with fail
              go_roundw
              case measure => simp [intOf] <;> omega
              case rel => exact ⟨j + 1, _, by simp, by omega, HE, HPE⟩
          · obtain rfl : j = l.length := by omega
            have r1 : ¬ ((l.length : Int) < (l.length : Int)) := by omega
            have HN := Lib.hid HJ.out.next
            clear HJ HPJ
            go_wp2_with fail
            go_roundw
            case measure => simp [intOf] <;> omega
            case rel => exact ⟨i + 1, dn, ah2, by simp, by omega, HN⟩
      | true =>
        have hk7 : W1.cell? ⟨wq.heap.size, 7, none⟩ = some (.bool true) := by rw [k7, hdn]
        have c2 : W1.cell? ⟨w.heap.size + 1, 2, none⟩ = some (.int .u32 (dn : Int)) := by rw [cell_of_row _ _ _ _ _ _ HI1.out.bs]; rfl
        have f2 := cells_thaw HI1.out.bs 2
        have e3 : bits .or .u32 (dn : Int) ((2 : Int) ^ i) = ((dn ||| 2 ^ i : Nat) : Int) := by rw [pow_int]; exact or_u32 _ _ (by have := HI1.out.dn.lt; omega) (pow_lt16 (by omega))
        have HI2 := Lib.hid ((ArI.setD (W := W1) HI1.out (show doneP l i = true by unfold doneP; rw [HO.out]; exact hdn) (by omega)).on (Below.refl _ _).drew)
        have HP2 := Lib.hid (show OpAt (W1.setCell ⟨w.heap.size + 1, 2, none⟩ (.int .u32 ((dn ||| 2 ^ i : Nat) : Int))).drew wq.heap.size o from (heap_setCell_other _ _ _ _ (show wq.heap.size ≠ w.heap.size + 1 by omega)).trans HP.out)
        clear k7 hdn HI1
        go_wp2_with fail
        go_region
        obtain ⟨W2, hW2⟩ : ∃ W, (W1.setCell ⟨w.heap.size + 1, 2, none⟩ (.int .u32 ((dn ||| 2 ^ i : Nat) : Int))).drew = W := ⟨_, rfl⟩
        rw [hW2] at HI2 HP2 ⊢
        clear hW2 c2 f2 e3 hk7
        go_wp2_with fail
        go_loopw [32] (fun s32 wr => ∃ (j : Nat) (ah2 : List Nat), s32 = .int .i64 j ∧ j ≤ l.length ∧ Hid (ArI w wr (.slice (some ⟨b, p, none⟩) l.length cl) l (i + 1) i j (dn ||| 2 ^ i) ah2) ∧ Hid (OpAt wr wq.heap.size o)) (fun s32 _ => l.length - (intOf s32).toNat)
        case atStart => exact ⟨0, ah, rfl, Nat.zero_le _, HI2, HP2⟩
        case round =>
          clear HI2 HP2
          obtain ⟨j, ah2, rfl, hj, HJ, HPJ⟩ := hrel
          by_cases hjl : j < l.length
          · have r1 : (j : Int) < (l.length : Int) := by omega
            have r2 : IntKind.i64.wrap ((j : Int) + 1) = (j : Int) + 1 := IntWalk.i64_in _ (by omega)
            have r3 : (0 : Int) ≤ j := by omega
            have r4 : (j : Int) ≤ 32 := by omega
            have r5 := wrap_pow (i := j) (by omega)
            obtain ⟨x, hxk⟩ : ∃ x, l[j]? = some x := ⟨_, List.getElem?_eq_getElem hjl⟩
            obtain ⟨b', p', cap', hv, _, _, hc⟩ := OpsOf.at (H.out.on HJ.out.bel) hxk
            obtain ⟨rfl, rfl⟩ : b = b' ∧ p = p' := by cases hv; exact ⟨rfl, rfl⟩
            have l2 := load_cellsO (p := p + j * 11) hc
            have st := store_op_new wr (#[Value.int .i64 0, Value.int .i64 0, Value.int .i64 0, Value.int .i64 0, Value.int .i64 0, Value.int .i64 0, Value.int .i64 0, Value.bool false, Value.int .i64 0, Value.int .i64 0, Value.int .i64 0]) rfl x
            have hbw : Below wr.heap.size wr (wr.alloc (.cells #[Value.int .i64 x.id, Value.int .i64 x.proc, Value.int .i64 x.obj, Value.int .i64 x.kind, Value.int .i64 x.meth, Value.int .i64 x.arg, Value.int .i64 x.sec, Value.bool x.done, Value.int .i64 x.res, Value.int .i64 x.inv, Value.int .i64 x.ret] 43)) := by go_grown
            have hop := OpAt.box wr x
            have hpj := HPJ.out.on hbw
            have hij := HJ.out.on hbw
            obtain ⟨W3, hW3⟩ : ∃ W, wr.alloc (.cells #[Value.int .i64 x.id, Value.int .i64 x.proc, Value.int .i64 x.obj, Value.int .i64 x.kind, Value.int .i64 x.meth, Value.int .i64 x.arg, Value.int .i64 x.sec, Value.bool x.done, Value.int .i64 x.res, Value.int .i64 x.inv, Value.int .i64 x.ret] 43) = W := ⟨_, rfl⟩
            rw [hW3] at hop st hbw hpj hij
            have l3 := hop.load
            have l4 := hpj.load
            have HIJ := Lib.hid hij
            have HPJ3 := Lib.hid hpj
            obtain ⟨a, hia⟩ : ∃ a, ah2[i]? = some a := ⟨_, List.getElem?_eq_getElem (by rw [hij.len]; exact hil)⟩
            have hba : befP l i j = befB x o := by unfold befP; rw [hxk, HO.out]
            have HIA := Lib.hid hia
            have hail : i < ah2.length := by rw [hij.len]; exact hil
            have hma := (hij.mid a hia).lt
            clear hv hc hxk hbw hop hpj hij HJ HPJ
            cases hb : befB x o with
            | false =>
              have HBA := Lib.hid (hba.trans hb)
              go_wp2_with fail
              refine (before_any x o _).mono ?_
              rintro _ w4 ⟨rfl, hb4⟩
              rw [hb]
              have HE := Lib.hid (ArI.skipJ (HIJ.out.on hb4) HBA.out)
              have HPE := Lib.hid (HPJ3.out.on hb4)
              clear hb4 hb hba hia l2 l3 l4 st
              go_wp2_with fail
              go_roundw
              case measure => simp [intOf] <;> omega
              case rel => exact ⟨j + 1, ah2, by simp, by omega, HE, HPE⟩
            | true =>
              have HBA := Lib.hid (hba.trans hb)
              go_wp2_with fail
              refine (before_any x o _).mono ?_
              rintro _ w4 ⟨rfl, hb4⟩
              rw [hb]
              have hI4 := HIJ.out.on hb4
              have hP4 := HPJ3.out.on hb4
              have d1 : w4.cell? ⟨w.heap.size + 1, 1, none⟩ = some (.slice (some ⟨w.heap.size, 0, none⟩) ah2.length ah2.length) := by rw [cell_of_row _ _ _ _ _ _ hI4.bs]; rfl
              have d2 : w4.cell? ⟨w.heap.size, i, none⟩ = some (.int .u32 (a : Int)) := by
                have := hI4.ba
                unfold ahO at this
                rw [cell_of_row _ _ _ _ _ _ this]
                simp [HIA.out]
              have d3 := cells_thaw hI4.ba i
              have e4 : bits .or .u32 (a : Int) ((2 : Int) ^ j) = ((a ||| 2 ^ j : Nat) : Int) := by rw [pow_int]; exact or_u32 _ _ (by omega) (pow_lt16 (by omega))
              have r6 : (i : Int) < (ah2.length : Int) := by omega
              have HE := Lib.hid (ArI.setJ (W := w4.drew) (hI4.on (Below.refl _ _).drew) HIA.out HBA.out (by omega))
              have HPE := Lib.hid (show OpAt (w4.drew.setCell ⟨w.heap.size, i, none⟩ (.int .u32 ((a ||| 2 ^ j : Nat) : Int))) wq.heap.size o from (heap_setCell_other _ _ _ _ (show wq.heap.size ≠ w.heap.size by omega)).trans hP4)
              clear hb4 hb hba hia l2 l3 l4 st hI4 hP4
              go_wp2_with fail
              go_region
              go_wp2_with fail
              go_roundw
              case measure => simp [intOf] <;> omega
              case rel => exact ⟨j + 1, _, by simp, by omega, HE, HPE⟩
          · obtain rfl : j = l.length := by omega
            have r1 : ¬ ((l.length : Int) < (l.length : Int)) := by omega
            have HN := Lib.hid HJ.out.next
            clear HJ HPJ
            go_wp2_with fail
            go_roundw
            case measure => simp [intOf] <;> omega
            case rel => exact ⟨i + 1, (dn ||| 2 ^ i), ah2, by simp, by omega, HN⟩
    · obtain rfl : i = l.length := by omega
      have q1 : ¬ ((l.length : Int) < (l.length : Int)) := by omega
      have hz2 : wq.heap[w0.heap.size]? = some (.cells #[.slice none 0 0, .slice none 0 0, .int .u32 0] 70 (0, 0)) := by
        obtain ⟨_, h2, h3, h4⟩ := HB0.out
        obtain ⟨_, _, _, hk, _⟩ := HP.out
        have e1 := (hk.block w0.heap.size (by omega) (by omega)).trans h2
        exact (HI.out.bel.block _ (heap_inO e1)).trans e1
      have c0 : wq.cell? ⟨w.heap.size + 1, 0, none⟩ = some (.slice al l.length cl) := by have := HI.out.bs; unfold pcO at this; rw [cell_of_row _ _ _ _ _ _ this]; rfl
      have c1 : wq.cell? ⟨w.heap.size + 1, 1, none⟩ = some (.slice (some ⟨w.heap.size, 0, none⟩) ah.length ah.length) := by have := HI.out.bs; unfold pcO at this; rw [cell_of_row _ _ _ _ _ _ this]; rfl
      have c2 : wq.cell? ⟨w.heap.size + 1, 2, none⟩ = some (.int .u32 (dn : Int)) := by have := HI.out.bs; unfold pcO at this; rw [cell_of_row _ _ _ _ _ _ this]; rfl
      have z0 : wq.cell? ⟨w0.heap.size, 0, none⟩ = some (.slice none 0 0) := by rw [cell_of_row _ _ _ _ _ _ hz2]; rfl
      have z1 : wq.cell? ⟨w0.heap.size, 1, none⟩ = some (.slice none 0 0) := by rw [cell_of_row _ _ _ _ _ _ hz2]; rfl
      have z2 : wq.cell? ⟨w0.heap.size, 2, none⟩ = some (.int .u32 0) := by rw [cell_of_row _ _ _ _ _ _ hz2]; rfl
      have f0 := cells_thaw hz2 0
      have f1 := cells_thaw hz2 1
      have f2 := cells_thaw hz2 2
      have hss := pc_set (.slice al l.length cl) (.slice (some ⟨w.heap.size, 0, none⟩) ah.length ah.length) (.int .u32 (dn : Int)) hz2
      have HEND := Lib.hid hss
      clear hss hz2
      go_wp2_with fail
      generalize (((wq.setCell ⟨w0.heap.size, 0, none⟩ (.slice al l.length cl)).setCell ⟨w0.heap.size, 1, none⟩ (.slice (some ⟨w.heap.size, 0, none⟩) ah.length ah.length)).setCell ⟨w0.heap.size, 2, none⟩ (.int .u32 (dn : Int))) = W9 at HEND ⊢
      have y0 : W9.cell? ⟨w0.heap.size, 0, none⟩ = some (.slice al l.length cl) := by rw [cell_of_row _ _ _ _ _ _ HEND.out.1]; rfl
      have y1 : W9.cell? ⟨w0.heap.size, 1, none⟩ = some (.slice (some ⟨w.heap.size, 0, none⟩) ah.length ah.length) := by rw [cell_of_row _ _ _ _ _ _ HEND.out.1]; rfl
      have y2 : W9.cell? ⟨w0.heap.size, 2, none⟩ = some (.int .u32 (dn : Int)) := by rw [cell_of_row _ _ _ _ _ _ HEND.out.1]; rfl
      refine bodyPost_ret (v := .agg #[.slice al l.length cl, .slice (some ⟨w.heap.size, 0, none⟩) ah.length ah.length, .int .u32 (dn : Int)]) (by simp [results, Try.results32, go_sem, y0, y1, y2]) rfl ?_
      obtain ⟨hb0, _, hs0, hgl⟩ := HB0.out
      obtain ⟨hp, hpw, ho, hk, hwl, hn⟩ := HP.out
      obtain ⟨rfl, rfl⟩ := HAL.out
      rw [hn] at hlen2 ⊢
      have hk9 : Keeps (fun k => k = w0.heap.size) wq W9 := HEND.out.2
      have hno : ∀ T, T ≠ 70 → ∀ k cur, k = w0.heap.size → wq.heap[k]? = some (.cells cur T (0, 0)) → False := fun T hT k cur e hg => by
        have e1 := (hk.block w0.heap.size (by omega) (by omega)).trans HB0.out.2.1
        have e2 := (HI.out.bel.block _ (heap_inO e1)).trans e1
        rw [e, e2] at hg
        exact hT (Obj.cells.inj (Option.some.inj hg)).2.1.symm
      have ho9 := row_keep (ho.on HI.out.bel) hk9 (hno _ (by decide))
      have hah9 : W9.heap[w.heap.size]? = some (ahO ah) := (hk9.block _ (heap_inO HI.out.ba) (by have := hk.size; omega)).trans HI.out.ba
      refine ⟨_, _, rfl, l, hp, hpw, ⟨OpsOwn.base ho9 (Nat.zero_le _), hwl, by omega, ⟨_, ah, rfl, hah9, HI.out.len, fun i a ha => HI.out.lo i a (by have := (List.getElem?_eq_some_iff.1 ha).1; rw [HI.out.len] at this; exact this) ha⟩, ⟨dn, rfl, HI.out.dn.of fun k => ?_⟩⟩, ho9, ?_⟩
      · by_cases c : k < l.length
        · simp [c]
        · rw [doneP_far (by omega)]; simp [c]
      · have k1 : Keeps (fun k => (Value.slice (some ⟨g, 0, none⟩) L.length cap).ownBlock = some k) w0 W1 := Keeps.of_below hb0
        have k2 : Keeps (fun k => (Value.slice (some ⟨g, 0, none⟩) L.length cap).ownBlock = some k) W1 w := hk.mono fun i hi => .inl (by rw [hi]; rfl)
        have k3 : Keeps (fun k => (Value.slice (some ⟨g, 0, none⟩) L.length cap).ownBlock = some k) w wq := Keeps.of_below HI.out.bel
        have k12 := Keeps.trans k1 k2 fun i hi => .inl hi
        have k123 := Keeps.trans k12 k3 fun i hi => .inl hi
        exact Keeps.trans k123 hk9 fun i hi => .inr (by omega)
end Od
end Go.Proofs.Ytppjmmdiglnkfaa
