import Derived.Test.YtcjfnfdinhbdlaaGreatDoorGbs
import Derived.Test.YtcjfnfdinhbdlaaGreatDoorGaq
import Derived.Test.YtcjfnfdinhbdlaaGreatDoorGbd
import Derived.Test.YtcjfnfdinhbdlaaGreatDoorGbj
import Derived.Test.YtcjfnfdinhbdlaaGreatDoorGbb
import Derived.Test.YtcjfnfdinhbdlaaGreatDoorGbg
namespace Go.Proofs.YtcjfnfdinhbdlaaGreatDoor
set_option maxRecDepth 100000
open Go.ChangeShapes Go.WideShapes Go.ChangeAt Go.RowKit Go.PlainAid Go.Deep
attribute [local go_sem ↓ high] load_op store_o app_opO
attribute [local go_sem] Oper.semAt_some
theorem otake_of {α : Type} {q l : List α} {M : Int} (h : (q = l ∧ (q.length : Int) < M) ∨ (q <+: l ∧ (q.length : Int) = M)) : q = l.take M.toNat := by
  rcases h with ⟨rfl, h⟩ | ⟨⟨t, rfl⟩, h⟩
  · exact (List.take_of_length_le (by omega)).symm
  · have : M.toNat = q.length := by omega
    rw [this, List.take_left']
    rfl
section
variable {w0 w w' : World} {pp n c tt : Nat} {tb : Nat → Nat} {V : Int → ByteArray} {R : List (Nat × Obj)} {u0 : Nat} {RR : Nat → List Pr} {QQ : Nat → List Int} {l : List OpV}
def OiK (w0 : World) (lb : Nat) (B : List (Nat × Obj)) (pre : List OpV) (Rc : List (Nat × Obj)) : Prop :=
  ∃ v Y, Rc = (lb, boxO v) :: (B ++ Y) ∧ OpR w0.heap.size pre v Y ∧ (∀ y ∈ Y, y.1 ≠ lb) ∧ Ap B Y ∧ ∀ y ∈ B, y.1 ≠ lb
def OiS (w0 : World) (lb : Nat) (B : List (Nat × Obj)) (M : Int) (pre : List OpV) (Rc : List (Nat × Obj)) : Prop := (pre.length : Int) < M ∧ OiK w0 lb B pre Rc
def OiX (w0 : World) (lb : Nat) (B : List (Nat × Obj)) (M : Int) (pre : List OpV) (Rc : List (Nat × Obj)) : Prop := (pre.length : Int) = M ∧ OiK w0 lb B pre Rc
theorem oi_step {lb : Nat} {B X Rc : List (Nat × Obj)} {pre : List OpV} (hK : OiK w0 lb B pre Rc) (hA : Ap X Rc) (H : PV w0 pp n c V (X ++ Rc) w) (p : OpV) (hlb : w0.heap.size ≤ lb) (hlen : pre.length ≤ 65536) :
    ∃ v g cap w2 Rc', (appOO #[v, .slice (some ⟨w.heap.size, 0, none⟩) 1 1]).run Tryz.prog (w.alloc (opO p)) = .ok (.slice (some ⟨g, 0, none⟩) (pre.length + 1) cap) w2 ∧
      (∃ Y, Rc = (lb, boxO v) :: (B ++ Y)) ∧ w2.cell? ⟨lb, 0, none⟩ = some v ∧ w2.frozen? ⟨lb, 0, none⟩ = false ∧
      (lb, boxO (.slice (some ⟨g, 0, none⟩) (pre.length + 1) cap)) ∈ Rc' ∧ OiK w0 lb B (pre ++ [p]) Rc' ∧ (∀ y ∈ B, y ∈ Rc') ∧ Ap X Rc' ∧
      PV w0 pp n c V (X ++ Rc') (w2.setCell ⟨lb, 0, none⟩ (.slice (some ⟨g, 0, none⟩) (pre.length + 1) cap)) := by
  obtain ⟨v, Y, rfl, hr, hY, hB, hBl⟩ := hK
  obtain ⟨g, cap, cur, w2, hrun, H2, hr2, hg2⟩ := op_pushR (Y := X ++ ((lb, boxO v) :: B)) (H.sub _ fun y hy => by
    simp only [List.mem_append, List.mem_cons] at hy ⊢
    rcases hy with h | h | h | h <;> simp [h]) hr (fun y hy z hz => by
      simp only [List.mem_append, List.mem_cons] at hz
      rcases hz with hz | rfl | hz
      · exact hA z hz y (by simp [hy])
      · exact (hY y hy).symm
      · exact hB z hz y hy) p hlen
  obtain ⟨k1, k2⟩ := boxO_cell (H2.mem (x := (lb, boxO v)) (by simp))
  have H3 := (H2.sub ((lb, boxO v) :: (g, rowP cur) :: (X ++ B)) fun y hy => by
    simp only [List.mem_append, List.mem_cons] at hy ⊢
    rcases hy with h | h | h | h <;> simp [h]).into (o := 0) (v := .slice (some ⟨g, 0, none⟩) (pre.length + 1) cap) (fun y hy => by
      simp only [List.mem_cons, List.mem_append] at hy
      rcases hy with rfl | hy | hy
      · exact fun e => hg2 (lb, boxO v) (by simp) e.symm
      · exact hA y hy (lb, boxO v) (by simp)
      · exact hBl y hy) (by decide) hlb
  have hgl : g ≠ lb := fun e => hg2 (lb, boxO v) (by simp) e.symm
  refine ⟨v, g, cap, w2, (lb, boxO (.slice (some ⟨g, 0, none⟩) (pre.length + 1) cap)) :: (B ++ [(g, rowP cur)]), hrun, ⟨Y, rfl⟩, k1, k2, by simp, ⟨_, _, rfl, hr2, fun y hy => by rw [List.mem_singleton] at hy; rw [hy]; exact hgl, fun z hz y hy => by rw [List.mem_singleton] at hy; rw [hy]; exact hg2 z (by simp [hz]), hBl⟩, fun y hy => by simp [hy], fun z hz y hy => ?_, H3.sub _ fun y hy => ?_⟩
  · simp only [List.mem_cons, List.mem_append, List.not_mem_nil, or_false] at hy
    rcases hy with rfl | hy | rfl
    · exact hA z hz (lb, boxO v) (by simp)
    · exact hA z hz y (by simp [hy])
    · exact hg2 z (by simp [hz])
  · simp only [List.mem_append, List.mem_cons, List.not_mem_nil, or_false] at hy ⊢
    rcases hy with h | h | h | h
    · exact .inr (.inr (.inl h))
    · exact .inl (by rw [h]; rfl)
    · exact .inr (.inr (.inr h))
    · exact .inr (.inl h)
theorem oi_end {lb b : Nat} {o : Obj} {B X Rc : List (Nat × Obj)} {pre : List OpV} {M : Int} {W : World} {p : OpV} (hK : OiK w0 lb B (pre ++ [p]) Rc) (hA : Ap ((b, o) :: X) Rc) (H : PV w0 pp n c V ((b, o) :: X ++ Rc) W) (hlt : (pre.length : Int) < M) :
    ∀ b, b = decide ((pre.length : Int) + 1 < M) → TakeO w0 pp n c V (OiS w0 lb B M) (OiX w0 lb B M) X pre p (.returned (.bool b)) W := by
  intro b hb
  have hl : ((pre ++ [p]).length : Int) = (pre.length : Int) + 1 := by simp
  have hA' := hA.tail
  have H' := H.drop
  cases b with
  | true =>
    have h := of_decide_eq_true hb.symm
    exact .inl ⟨rfl, Rc, ⟨⟨by rw [hl]; exact h, hK⟩, hA'⟩, H'⟩
  | false =>
    have h := of_decide_eq_false hb.symm
    exact .inr ⟨rfl, Rc, ⟨⟨by rw [hl]; omega, hK⟩, hA'⟩, H'⟩
set_option maxHeartbeats 2000000 in
theorem found1_takes (lb mb : Nat) (M : Int) (hM : M ≤ 65536) (hlb : w0.heap.size ≤ lb) :
    TakesO w0 pp n c V 48 #[.pointer (some ⟨lb, 0, none⟩), .pointer (some ⟨mb, 0, none⟩)] (OiS w0 lb [(mb, boxIn M)] M) (OiX w0 lb [(mb, boxIn M)] M) := by
  rintro pre X Rc p W ⟨⟨hlt, hK⟩, hA⟩ H
  have H0 := H.push (opO p)
  have hA0 := hA.push H (opO p)
  have l0 := (H0.opAt (b := W.heap.size) (x := p) List.mem_cons_self).load
  obtain ⟨v, g, cap, w2, Rc', hrun, ⟨Y, rfl⟩, k1, k2, h1, hK', hB, hA', H'⟩ := oi_step (X := (W.heap.size, opO p) :: X) hK hA0 H0 p hlb (by omega)
  have l1 := (boxO_cell (H0.mem (x := (lb, boxO v)) (by simp))).1
  have k3 := (boxO_cell (H'.mem (x := (lb, _)) (List.mem_append_right _ h1))).1
  have k4 := solo_cell (H'.mem (x := (mb, boxIn M)) (List.mem_append_right _ (hB _ (by simp))))
  simp only at k4
  have HZ := Lib.hid (oi_end hK' hA' H' hlt)
  have hlen : pre.length ≤ 65536 := by omega
  rw [World.size_alloc] at hrun
  unfold opO at hrun l0 l1
  clear H H0 H' hK hK' hA hA0 hA' hB hlt h1
  go_enter Tryz.func48, Tryz.ntmps48
  go_wp2_with fail
  go_returns
  exact HZ.out _ rfl
end
end Go.Proofs.YtcjfnfdinhbdlaaGreatDoor
namespace Go.Proofs.YtcjfnfdinhbdlaaGreatDoor
set_option maxRecDepth 100000
open Go.ChangeShapes Go.WideShapes Go.ChangeAt Go.RowKit Go.PlainAid Go.Deep
attribute [local go_sem] Oper.semAt_some
def boxTp (tv : Option Addr) : Obj := .cells #[.pointer tv] 25 (0, 0)
def gW (w : World) (tv : Option Addr) (way : Int) (low past : ByteArray) : World := (((w.alloc (boxTp tv)).alloc (boxIn way)).alloc (boxS low)).alloc (boxS past)
def gV (b : Nat) : Value := .func (.func 99) #[] #[.pointer (some ⟨b, 0, none⟩), .pointer (some ⟨b + 1, 0, none⟩), .pointer (some ⟨b + 1 + 1, 0, none⟩), .pointer (some ⟨b + 1 + 1 + 1, 0, none⟩)]
def nV : Value := .func (.func 50) #[] #[]
theorem given_mk (tv : Option Addr) (way : Int) (low past : ByteArray) (w : World) :
    Calls Tryz.prog 51 #[.pointer tv, .int .i64 way, .string low, .string past] w fun e w' => e = .returned (gV w.heap.size) ∧ w' = gW w tv way low past := by
  have hmf := make_func
  go_enter Tryz.func51, Tryz.ntmps51
  go_wp2
  go_returns
  exact ⟨rfl, rfl⟩
def SeqPost (w : World) (tv : Option Addr) (way : Int) (long : Prop) (low past : ByteArray) (e : Ending) (w' : World) : Prop :=
  (long ∧ e = .returned nV ∧ Below w.heap.size w w') ∨ (¬ long ∧ ∃ w2, Below w.heap.size w w2 ∧ e = .returned (gV w2.heap.size) ∧ w' = gW w2 tv way low past)
set_option maxHeartbeats 1000000 in
theorem tfind_gen (tv : Option Addr) (way : Int) (fv : Value) (front : List Int) (w : World) (hf : IntsOf w fv front) :
    Calls Tryz.prog 47 #[.pointer tv, .int .i64 way, fv] w (SeqPost w tv way (4 < front.length) (keyS front) (pastS (keyS front))) := by
  have HF := Lib.hid (keyOf_any fv front w hf)
  clear hf
  by_cases h4 : 4 < front.length
  · have hv : ofV front = .tuple #[.string ⟨#[]⟩, .int .i64 22] := by unfold ofV; rw [if_pos h4]
    have H4 := Lib.hid h4
    rw [hv] at HF
    clear h4
    go_enter Tryz.func47, Tryz.ntmps47
    go_wp2_with fail
    refine HF.out.mono ?_
    rintro e w1 ⟨rfl, hb⟩
    have HB := Lib.hid hb
    clear hb
    go_wp2_with fail
    go_returns
    exact .inl ⟨H4.out, rfl, HB.out⟩
  · have hv : ofV front = .tuple #[.string (keyS front), .int .i64 0] := by unfold ofV; rw [if_neg h4]
    have hsz : (keyS front).size ≤ 140737488351232 := by rw [keyS_size]; omega
    have H4 := Lib.hid h4
    rw [hv] at HF
    obtain ⟨ks, hks⟩ : ∃ ks, keyS front = ks := ⟨_, rfl⟩
    rw [hks] at HF hsz ⊢
    have HS := Lib.hid hsz
    clear h4 hv hks hsz
    go_enter Tryz.func47, Tryz.ntmps47
    go_wp2_with fail
    refine HF.out.mono ?_
    rintro e w1 ⟨rfl, hb⟩
    have HB := Lib.hid hb
    clear hb
    go_wp2_with fail
    refine (past_any ks w1 HS.out).mono ?_
    rintro e w2 ⟨rfl, hb2⟩
    have HB2 := Lib.hid (HB.out.on hb2)
    clear hb2
    go_wp2_with fail
    refine (given_mk tv way ks (pastS ks) w2).mono ?_
    rintro e w3 ⟨rfl, rfl⟩
    go_wp2_with fail
    go_returns
    exact .inr ⟨H4.out, w2, HB2.out, rfl, rfl⟩
def NilPost (w : World) (e : Ending) (w' : World) : Prop := e = .returned (.slice none 0 0) ∧ Below w.heap.size w w'
def IsMade (w : World) (tv : Option Addr) (b : Bool) : Prop := Calls Tryz.prog 56 #[.pointer tv] w fun e w' => e = .returned (.bool b) ∧ w = w'
theorem alloc_old {w : World} {k : Nat} {o A : Obj} (h : w.heap[k]? = some o) : (w.alloc A).heap[k]? = some o := ((show Below w.heap.size w (w.alloc A) by go_grown).block k (heap_inO h)).trans h
theorem alloc_three (w : World) (A B C : Obj) : (((w.alloc A).alloc B).alloc C).heap[w.heap.size]? = some A ∧ (((w.alloc A).alloc B).alloc C).heap[w.heap.size + 1]? = some B ∧ (((w.alloc A).alloc B).alloc C).heap[w.heap.size + 1 + 1]? = some C := by
  have h1 := heap_alloc_new (w.alloc A) B
  have h2 := heap_alloc_new ((w.alloc A).alloc B) C
  rw [World.size_alloc] at h1 h2
  rw [World.size_alloc] at h2
  exact ⟨alloc_old (alloc_old (heap_alloc_new w A)), alloc_old h1, h2⟩
theorem boxTp_cell {w : World} {b : Nat} {tv : Option Addr} (h : w.heap[b]? = some (boxTp tv)) : w.cell? ⟨b, 0, none⟩ = some (.pointer tv) := solo_cell h
theorem gW_parts (w : World) (tv : Option Addr) (way : Int) (low past : ByteArray) : Below w.heap.size w (gW w tv way low past) ∧ (gW w tv way low past).cell? ⟨w.heap.size, 0, none⟩ = some (.pointer tv) ∧ (gW w tv way low past).cell? ⟨w.heap.size + 1, 0, none⟩ = some (.int .i64 way) ∧ (gW w tv way low past).cell? ⟨w.heap.size + 1 + 1, 0, none⟩ = some (.string low) ∧ (gW w tv way low past).cell? ⟨w.heap.size + 1 + 1 + 1, 0, none⟩ = some (.string past) := by
  obtain ⟨h1, h2, h3⟩ := alloc_three w (boxTp tv) (boxIn way) (boxS low)
  have h4 := heap_alloc_new (((w.alloc (boxTp tv)).alloc (boxIn way)).alloc (boxS low)) (boxS past)
  rw [World.size_alloc, World.size_alloc, World.size_alloc] at h4
  exact ⟨by unfold gW boxTp boxIn boxS; go_grown, boxTp_cell (alloc_old h1), solo_cell (alloc_old h2), solo_cell (alloc_old h3), solo_cell h4⟩
set_option maxHeartbeats 1000000 in
theorem list_not {w : World} {tv : Option Addr} (way : Int) (low past : ByteArray) (h : IsMade (((w.alloc (boxTp tv)).alloc (boxIn way)).alloc (boxS past)) tv false) :
    Calls Tryz.prog 44 #[.pointer tv, .int .i64 way, .string low, .string past] w (NilPost w) := by
  have HM := Lib.hid h
  have a0 : (((w.alloc (boxTp tv)).alloc (boxIn way)).alloc (boxS past)).cell? ⟨w.heap.size, 0, none⟩ = some (.pointer tv) := boxTp_cell (alloc_three w (boxTp tv) (boxIn way) (boxS past)).1
  have hb : Below w.heap.size w (((w.alloc (boxTp tv)).alloc (boxIn way)).alloc (boxS past)) := by unfold boxTp boxIn boxS; go_grown
  obtain ⟨W3, hW3⟩ : ∃ W3, ((w.alloc (boxTp tv)).alloc (boxIn way)).alloc (boxS past) = W3 := ⟨_, rfl⟩
  rw [hW3] at a0 hb HM
  have HB := Lib.hid hb
  clear h hb
  unfold boxTp boxIn boxS at hW3
  refine (callsIn_wide (n := 10)).1 ?_
  refine callsIn_of_wp_marks Tryz.func44 rfl trivial ?_ rfl
  simp only [Tryz.ntmps44, List.size_toArray, List.length_cons, List.length_nil, Nat.reduceAdd, Nat.reduceSub, Array.replicate_succ, Array.replicate_zero, List.push_toArray, List.append_toArray, List.nil_append, List.cons_append]
  refine wpIn_wide.2 ?_
  go_wp2_with fail
  refine HM.out.mono ?_
  rintro e _ ⟨rfl, rfl⟩
  go_wp2_with fail
  exact ⟨.slice none 0 0, by simp [results, Tryz.results44, go_sem], rfl, HB.out⟩
set_option maxHeartbeats 1000000 in
theorem list_bad {w : World} {tv : Option Addr} (way : Int) (low past : ByteArray) (hw : way < 0 ∨ 5 ≤ way) (h : IsMade (((w.alloc (boxTp tv)).alloc (boxIn way)).alloc (boxS past)) tv true) :
    Calls Tryz.prog 44 #[.pointer tv, .int .i64 way, .string low, .string past] w (NilPost w) := by
  have HM := Lib.hid h
  have a0 : (((w.alloc (boxTp tv)).alloc (boxIn way)).alloc (boxS past)).cell? ⟨w.heap.size, 0, none⟩ = some (.pointer tv) := boxTp_cell (alloc_three w (boxTp tv) (boxIn way) (boxS past)).1
  have a1 : (((w.alloc (boxTp tv)).alloc (boxIn way)).alloc (boxS past)).cell? ⟨w.heap.size + 1, 0, none⟩ = some (.int .i64 way) := solo_cell (alloc_three w (boxTp tv) (boxIn way) (boxS past)).2.1
  have hb : Below w.heap.size w (((w.alloc (boxTp tv)).alloc (boxIn way)).alloc (boxS past)) := by unfold boxTp boxIn boxS; go_grown
  obtain ⟨W3, hW3⟩ : ∃ W3, ((w.alloc (boxTp tv)).alloc (boxIn way)).alloc (boxS past) = W3 := ⟨_, rfl⟩
  rw [hW3] at a0 a1 hb HM
  have HB := Lib.hid hb
  clear h hb
  unfold boxTp boxIn boxS at hW3
  refine (callsIn_wide (n := 10)).1 ?_
  refine callsIn_of_wp_marks Tryz.func44 rfl trivial ?_ rfl
  simp only [Tryz.ntmps44, List.size_toArray, List.length_cons, List.length_nil, Nat.reduceAdd, Nat.reduceSub, Array.replicate_succ, Array.replicate_zero, List.push_toArray, List.append_toArray, List.nil_append, List.cons_append]
  refine wpIn_wide.2 ?_
  rcases hw with hw | hw
  · have f1 : decide (way < 0) = true := decide_eq_true hw
    go_wp2_with fail
    refine HM.out.mono ?_
    rintro e _ ⟨rfl, rfl⟩
    go_wp2_with fail
    exact ⟨.slice none 0 0, by simp [results, Tryz.results44, go_sem], rfl, HB.out⟩
  · have f1 : decide (way < 0) = false := decide_eq_false (by omega)
    have f3 : ¬ (way < 0) := by omega
    have f2 : decide (5 ≤ way) = true := decide_eq_true hw
    go_wp2_with fail
    refine HM.out.mono ?_
    rintro e _ ⟨rfl, rfl⟩
    go_wp2_with fail
    exact ⟨.slice none 0 0, by simp [results, Tryz.results44, go_sem], rfl, HB.out⟩
end Go.Proofs.YtcjfnfdinhbdlaaGreatDoor
namespace Go.Proofs.YtcjfnfdinhbdlaaGreatDoor
set_option maxRecDepth 100000
open Go.ChangeShapes Go.WideShapes Go.ChangeAt Go.RowKit Go.PlainAid Go.Deep
attribute [local go_sem] Oper.semAt_some
theorem given1_nil {f : FuncId} {caps : Array Value} {tv : Option Addr} {way : Int} {low past : ByteArray} {w : World} {bt bk bl bp : Nat} (hL : Calls Tryz.prog 44 #[.pointer tv, .int .i64 way, .string low, .string past] w (NilPost w))
    (c1 : w.cell? ⟨bt, 0, none⟩ = some (.pointer tv)) (c2 : w.cell? ⟨bk, 0, none⟩ = some (.int .i64 way)) (c3 : w.cell? ⟨bl, 0, none⟩ = some (.string low)) (c4 : w.cell? ⟨bp, 0, none⟩ = some (.string past)) :
    Calls Tryz.prog 99 #[.func (.func f) #[] caps, .pointer (some ⟨bt, 0, none⟩), .pointer (some ⟨bk, 0, none⟩), .pointer (some ⟨bl, 0, none⟩), .pointer (some ⟨bp, 0, none⟩)] w fun e w' => e = .returned (.tuple #[]) ∧ Below w.heap.size w w' := by
  have hnil := eq_yieldO
  have HL := Lib.hid hL
  clear hL
  go_enter Tryz.func99, Tryz.ntmps99
  go_wp2_with fail
  refine HL.out.mono ?_
  rintro e w1 ⟨rfl, hb⟩
  have HB := Lib.hid hb
  clear hb c1 c2 c3 c4 HL
  go_wp2_with fail
  go_loopw [16] (fun s16 wr => s16 = .int .i64 0 ∧ wr = w1) (fun _ _ => 0)
  case atStart => exact ⟨rfl, rfl⟩
  case round =>
    obtain ⟨rfl, rfl⟩ := hrel
    go_wp2_with fail
    go_returns
    exact ⟨rfl, HB.out⟩
theorem nothing_any {f : FuncId} {caps : Array Value} (w : World) :
    Calls Tryz.prog 50 #[.func (.func f) #[] caps] w fun e w' => e = .returned (.tuple #[]) ∧ w' = w := by
  go_enter Tryz.func50, Tryz.ntmps50
  go_wp2
  go_returns
  exact ⟨rfl, rfl⟩
section
variable {w0 w w' : World} {pp n c tt : Nat} {tb : Nat → Nat} {V : Int → ByteArray} {R : List (Nat × Obj)} {u0 : Nat} {RR : Nat → List Pr} {QQ : Nat → List Int} {l : List OpV}
def selW (way : Int) (low past : ByteArray) (l : List OpV) (RR : Nat → List Pr) : List OpV := if 0 ≤ way ∧ way < 5 then selO way.toNat low past l (RR way.toNat) else []
theorem hit_none {way : Int} {front : List Int} {o : OpV} (h : ¬ (0 ≤ way ∧ way < 5) ∨ 4 < front.length) : hitO way front o = false := by
  unfold hitO
  rcases h with h | h
  · rw [decide_eq_false h]; rfl
  · rw [decide_eq_false (p := front.length ≤ 4) (by omega), Bool.and_false]; rfl
theorem rfind_none {way : Int} {front : List Int} (h : ¬ (0 ≤ way ∧ way < 5) ∨ 4 < front.length) (l : List OpV) : rfindL way front l = [] := by
  unfold rfindL
  induction l with
  | nil => rfl
  | cons o l ih =>
    rw [List.foldl_cons, hit_none h]
    exact ih
theorem find_sel {way : Int} {front : List Int} (hT : TabV V n u0 l RR QQ) (hf : front.length ≤ 4) (hi : InI front) : selW way (keyS front) (pastS (keyS front)) l RR = rfindL way front l := by
  unfold selW
  by_cases hw : 0 ≤ way ∧ way < 5
  · rw [if_pos hw]
    obtain ⟨k, rfl⟩ : ∃ k : Nat, way = (k : Int) := ⟨way.toNat, by omega⟩
    rw [Int.toNat_natCast]
    have hk : k < 5 := by omega
    obtain ⟨h1, h2⟩ := sel_own (low := keyS front) (past := pastS (keyS front)) (hT.is k hk) hT.ok
    exact find_is (hT.is k hk) hT.ok hw hf hi h1 h2
  · rw [if_neg hw, rfind_none (.inl hw)]
set_option maxHeartbeats 2000000 in
theorem given1_pv {f : FuncId} {caps : Array Value} {K Kx : List OpV → List (Nat × Obj) → Prop} (hf : ∀ args w, (callFunc f args).run Tryz.prog w = .ok (.enter f args) w) (hY : TakesO w0 pp n c V f caps K Kx) (hn : 1 < n) (hT : TabV V n u0 l RR QQ) (hW : ∀ o ∈ l, o.Wf) (hRu : RulesAt w0) (way : Int) (low past : ByteArray) (hlk : low.size ≤ 65536) (hl : l.length ≤ 1000)
    (bt bk bl bp : Nat) (X Rc : List (Nat × Obj)) (hR : TabR pp tt tb X) (h1 : (bt, boxTp (some ⟨tt, 0, none⟩)) ∈ X) (h2 : (bk, boxIn way) ∈ X) (h3 : (bl, boxS low) ∈ X) (h4 : (bp, boxS past) ∈ X) (hK : K [] Rc ∧ Ap X Rc) (H : PV w0 pp n c V (X ++ Rc) w) :
    Calls Tryz.prog 99 #[.func (.func f) #[] caps, .pointer (some ⟨bt, 0, none⟩), .pointer (some ⟨bk, 0, none⟩), .pointer (some ⟨bl, 0, none⟩), .pointer (some ⟨bp, 0, none⟩)] w (GivenPost w0 pp n c V K Kx X (selW way low past l RR)) := by
  unfold selW
  by_cases hw : 0 ≤ way ∧ way < 5
  · rw [if_pos hw]
    obtain ⟨k, rfl⟩ : ∃ k : Nat, way = (k : Int) := ⟨way.toNat, by omega⟩
    rw [Int.toNat_natCast]
    exact given1_any hf hY hn hT hW hRu k (by omega) low past hlk hl bt bk bl bp X Rc hR h1 h2 h3 h4 hK H
  · rw [if_neg hw]
    have c1 := boxTp_cell (H.mem (x := (bt, boxTp (some ⟨tt, 0, none⟩))) (by simp [h1]))
    have c2 := solo_cell (H.mem (x := (bk, boxIn way)) (by simp [h2]))
    have c3 := boxS_cell (H.mem (x := (bl, boxS low)) (by simp [h3]))
    have c4 := boxS_cell (H.mem (x := (bp, boxS past)) (by simp [h4]))
    have hd := ((tab_cells (H.mem (x := (tt, tabO tb)) (by simp [hR.tab]))).1)
    have hm : IsMade (((w.alloc (boxTp (some ⟨tt, 0, none⟩))).alloc (boxIn way)).alloc (boxS past)) (some ⟨tt, 0, none⟩) true := tmade_yes (a := tb 0) (by
      have hb : Below w.heap.size w (((w.alloc (boxTp (some ⟨tt, 0, none⟩))).alloc (boxIn way)).alloc (boxS past)) := by unfold boxTp boxIn boxS; go_grown
      rw [hb.cell (H.lt (x := (tt, tabO tb)) (by simp [hR.tab]))]
      exact hd)
    refine (given1_nil (list_bad way low past (by omega) hm) c1 c2 c3 c4).mono ?_
    rintro e w' ⟨rfl, hb⟩
    exact ⟨rfl, Rc, H.on hb, .inl hK⟩
end
end Go.Proofs.YtcjfnfdinhbdlaaGreatDoor
namespace Go.Proofs.YtcjfnfdinhbdlaaGreatDoor
set_option maxRecDepth 100000
open Go.ChangeShapes Go.WideShapes Go.ChangeAt Go.RowKit Go.PlainAid Go.Deep
attribute [local go_sem] Oper.semAt_some
theorem eq_seqO (fn : Fn) (a b : Array Value) (w : World) : (binOp .eql 45 (.func fn a b) .nilFunc).run Tryz.prog w = .ok (.bool false) w := by kernel_rfl
section
variable {w0 w w' : World} {pp n c tt : Nat} {tb : Nat → Nat} {V : Int → ByteArray} {R : List (Nat × Obj)} {u0 : Nat} {RR : Nat → List Pr} {QQ : Nat → List Int} {l : List OpV}
theorem PV.four {b : Nat} (H : PV w0 pp n c V R w) (tv : Option Addr) (way : Int) (low past : ByteArray) (hb : w.heap.size = b) : PV w0 pp n c V ((b + 1 + 1 + 1, boxS past) :: (b + 1 + 1, boxS low) :: (b + 1, boxIn way) :: (b, boxTp tv) :: R) (gW w tv way low past) := by
  have h := (((H.push (boxTp tv)).push (boxIn way)).push (boxS low)).push (boxS past)
  simp only [World.size_alloc, hb] at h
  exact h
set_option maxHeartbeats 4000000 in
theorem found_any (H : PV w0 pp n c V R w) (hR : TabR pp tt tb R) (hn : 1 < n) (hT : TabV V n u0 l RR QQ) (hW : ∀ o ∈ l, o.Wf) (hRu : RulesAt w0) (hl : l.length ≤ 1000) (way : Int) (fv : Value) (front : List Int) (hf : IntsOf w fv front) (M : Int) (hM : M ≤ 65536) :
    Calls Tryz.prog 16 #[.pointer (some ⟨tt, 0, none⟩), .int .i64 way, fv, .int .i64 M] w (ListPost w0 pp n c V R ((rfindL way front l).take M.toNat)) := by
  have hmf := make_func
  have heq := eq_seqO
  have H1 := (H.push (boxIn M)).push (boxO (.slice none 0 0))
  rw [World.size_alloc] at H1
  have hlo := H.below.size
  have HL := Lib.hid (fun (z : Nat × Obj) (hz : z ∈ R) => H.lt hz)
  have hb1 : Below w.heap.size w ((w.alloc (boxIn M)).alloc (boxO (.slice none 0 0))) := by unfold boxIn boxO; go_grown
  have k0 := solo_cell (H1.mem (x := (w.heap.size, boxIn M)) (by simp))
  simp only at k0
  have hsz : ((w.alloc (boxIn M)).alloc (boxO (.slice none 0 0))).heap.size = w.heap.size + 2 := by simp
  obtain ⟨W1, hW1⟩ : ∃ W1, (w.alloc (boxIn M)).alloc (boxO (.slice none 0 0)) = W1 := ⟨_, rfl⟩
  rw [hW1] at H1 hb1 k0 hsz
  have HF := Lib.hid (tfind_gen (some ⟨tt, 0, none⟩) way fv front W1 (hf.on hb1))
  have hi := hf.inI
  obtain ⟨mb, hmb⟩ : ∃ mb, w.heap.size = mb := ⟨_, rfl⟩
  rw [hmb] at H1 k0 hsz hlo HL
  have HX := Lib.hid (And.intro H1 (And.intro hR (And.intro hT (And.intro hW (And.intro hRu (And.intro hi hl))))))
  have hdrop := H1.drop.drop
  have HR1 := Lib.hid hdrop
  clear H1 hR hT hW hRu hi hl hf H hb1 hdrop
  unfold boxIn boxO at hW1
  by_cases hM0 : M ≤ 0
  · have f1 : decide (M ≤ 0) = true := decide_eq_true hM0
    have HZ : Hid (ListPost w0 pp n c V R ((rfindL way front l).take M.toNat) (.returned (.slice none 0 0)) W1) := Lib.hid ⟨_, [], rfl, by rw [show M.toNat = 0 by omega, List.take_zero]; exact .inl ⟨rfl, rfl, rfl⟩, HR1.out, fun y hy => by cases hy⟩
    clear hM0
    go_enter Tryz.func16, Tryz.ntmps16
    go_wp2
    go_returns
    exact HZ.out
  have f1 : decide (M ≤ 0) = false := decide_eq_false hM0
  go_enter Tryz.func16, Tryz.ntmps16
  go_wp2_with fail
  refine HF.out.mono ?_
  rintro e w2 (⟨h4, rfl, hb2⟩ | ⟨h4, w3, hb3, rfl, rfl⟩)
  · have H2 := HX.out.1.on hb2
    have k1 := (boxO_cell (H2.mem (x := (mb + 1, boxO (.slice none 0 0))) (by simp))).1
    have HZ : Hid (ListPost w0 pp n c V R ((rfindL way front l).take M.toNat) (.returned (.slice none 0 0)) w2) := Lib.hid ⟨_, [], rfl, by rw [rfind_none (.inr h4), List.take_nil]; exact .inl ⟨rfl, rfl, rfl⟩, H2.drop.drop, fun y hy => by cases hy⟩
    unfold nV
    clear hb2 h4 H2 HF
    go_wp2_with fail
    refine (nothing_any w2).mono ?_
    rintro e w5 ⟨rfl, rfl⟩
    go_wp2_with fail
    go_returns
    exact HZ.out
  · have H3 := HX.out.1.on hb3
    obtain ⟨b, hb⟩ : ∃ b, w3.heap.size = b := ⟨_, rfl⟩
    have H4 := H3.four (some ⟨tt, 0, none⟩) way (keyS front) (pastS (keyS front)) hb
    have hsb := hb3.size
    rw [hsz, hb] at hsb
    have hks := keyS_size front
    have hsel := find_sel (way := way) HX.out.2.2.1 (Nat.le_of_not_lt h4) HX.out.2.2.2.2.2.1
    have HC := Lib.hid (given1_pv (enters_of Tryz.func48 (by kernel_rfl) rfl) (found1_takes (w0 := w0) (pp := pp) (n := n) (c := c) (V := V) (mb + 1) mb M hM (by omega)) hn HX.out.2.2.1 HX.out.2.2.2.1 HX.out.2.2.2.2.1 way (keyS front) (pastS (keyS front)) (by omega) HX.out.2.2.2.2.2.2 b (b + 1) (b + 1 + 1) (b + 1 + 1 + 1) ((b + 1 + 1 + 1, boxS (pastS (keyS front))) :: (b + 1 + 1, boxS (keyS front)) :: (b + 1, boxIn way) :: (b, boxTp (some ⟨tt, 0, none⟩)) :: R) [(mb + 1, boxO (.slice none 0 0)), (mb, boxIn M)]
      (HX.out.2.1.more fun y hy => by simp [hy]) (by simp) (by simp) (by simp) (by simp)
      ⟨⟨by simp; omega, .slice none 0 0, [], rfl, .inl ⟨rfl, rfl, rfl⟩, (fun y hy => by cases hy), (fun _ _ y hy => by cases hy), fun y hy => by rw [List.mem_singleton] at hy; subst hy; simp only; omega⟩, by
        intro z hz y hy
        simp only [List.mem_cons, List.not_mem_nil, or_false] at hz hy
        have hRz : z ∈ R → z.1 < mb := HL.out z
        rcases hz with rfl | rfl | rfl | rfl | hz
        · rcases hy with rfl | rfl <;> simp only <;> omega
        · rcases hy with rfl | rfl <;> simp only <;> omega
        · rcases hy with rfl | rfl <;> simp only <;> omega
        · rcases hy with rfl | rfl <;> simp only <;> omega
        · have := hRz hz
          rcases hy with rfl | rfl <;> simp only <;> omega⟩
      (H4.sub _ fun y hy => by
        simp only [List.cons_append, List.mem_append, List.mem_cons, List.not_mem_nil, or_false] at hy ⊢
        rcases hy with h | h | h | h | h | h | h <;> simp [h]))
    rw [hsel] at HC
    obtain ⟨W4, hW4⟩ : ∃ W4, gW w3 (some ⟨tt, 0, none⟩) way (keyS front) (pastS (keyS front)) = W4 := ⟨_, rfl⟩
    rw [hW4] at HC ⊢
    rw [hb]
    unfold gV
    have HSB := Lib.hid (And.intro hsb hlo)
    clear h4 hb3 H3 H4 hsb hks hsel hW4 hb HF hlo
    go_wp2_with fail
    refine HC.out.mono ?_
    rintro e w6 ⟨rfl, Rc', H6, hK⟩
    have HQ : ∃ L v Y, L = (rfindL way front l).take M.toNat ∧ OpR w0.heap.size L v Y ∧ PV w0 pp n c V ((mb + 1, boxO v) :: (Y ++ R)) w6 ∧ ∀ y ∈ Y, ∀ z ∈ R, z.1 ≠ y.1 := by
      rcases hK with ⟨⟨hl, v, Y, rfl, hr, _⟩, hA⟩ | ⟨k, hk, ⟨hl, v, Y, rfl, hr, _⟩, hA⟩
      · exact ⟨_, v, Y, otake_of (.inl ⟨rfl, hl⟩), hr, H6.sub _ fun y hy => by
          simp only [List.cons_append, List.mem_append, List.mem_cons, List.nil_append] at hy ⊢
          rcases hy with h | h | h <;> simp [h], fun y hy z hz => hA z (by simp [hz]) y (by simp [hy])⟩
      · exact ⟨_, v, Y, otake_of (.inr ⟨List.take_prefix _ _, hl⟩), hr, H6.sub _ fun y hy => by
          simp only [List.cons_append, List.mem_append, List.mem_cons, List.nil_append] at hy ⊢
          rcases hy with h | h | h <;> simp [h], fun y hy z hz => hA z (by simp [hz]) y (by simp [hy])⟩
    obtain ⟨L, v, Y, hl, hr, H7, hap⟩ := HQ
    have k1 := (boxO_cell (H7.mem (x := (mb + 1, boxO v)) (by simp))).1
    have HZ : Hid (ListPost w0 pp n c V R ((rfindL way front l).take M.toNat) (.returned v) w6) := Lib.hid ⟨v, Y, rfl, by rw [← hl]; exact hr, H7.drop, hap⟩
    clear hK H6 H7 hr hl HC hap
    go_wp2_with fail
    go_returns
    exact HZ.out
end
end Go.Proofs.YtcjfnfdinhbdlaaGreatDoor
namespace Go.Proofs.YtcjfnfdinhbdlaaGreatDoor
set_option maxRecDepth 100000
open Go.ChangeShapes Go.WideShapes Go.ChangeAt Go.RowKit Go.PlainAid Go.Deep
attribute [local go_sem] Oper.semAt_some
def tarr (tb : Nat → Nat) : Nat → Array Value
  | 0 => #[.pointer none, .pointer none, .pointer none, .pointer none, .pointer none]
  | k + 1 => (tarr tb k).setIfInBounds k (.pointer (some ⟨tb k, 0, none⟩))
theorem tarr_size (tb : Nat → Nat) : ∀ k, (tarr tb k).size = 5
  | 0 => rfl
  | k + 1 => by show ((tarr tb k).setIfInBounds k _).size = 5; rw [Array.size_setIfInBounds, tarr_size tb k]
theorem tarr_upd (tb : Nat → Nat) (k x : Nat) : ∀ j, j ≤ k → tarr (updF tb k x) j = tarr tb j
  | 0, _ => rfl
  | j + 1, h => by
    show (tarr (updF tb k x) j).setIfInBounds j (.pointer (some ⟨updF tb k x j, 0, none⟩)) = (tarr tb j).setIfInBounds j (.pointer (some ⟨tb j, 0, none⟩))
    rw [tarr_upd tb k x j (by omega), updF_other tb x (by omega)]
def treesL (pp : Nat) (tb : Nat → Nat) (k : Nat) : List (Nat × Obj) := (List.range k).map fun j => (tb j, treeO pp j)
theorem treesL_upd (pp : Nat) (tb : Nat → Nat) (k x : Nat) : treesL pp (updF tb k x) (k + 1) = treesL pp tb k ++ [(x, treeO pp k)] := by
  unfold treesL
  rw [List.range_succ, List.map_append, List.map_cons, List.map_nil, updF_same]
  congr 1
  exact List.map_congr_left fun j hj => by
    have := List.mem_range.1 hj
    rw [updF_other tb x (by omega)]
def tabK (tb : Nat → Nat) (k : Nat) : Obj := .cells (tarr tb k) 69 (0, 0)
section
variable {w0 w w' : World} {pp n c tt : Nat} {tb : Nat → Nat} {V : Int → ByteArray} {R : List (Nat × Obj)} {i : Int}
theorem topen1 (H : PV w0 pp n c V R w) (hn : 1 < n) (hi : 0 ≤ i ∧ i < 16) :
    Calls Tryz.prog 24 #[.pointer (some ⟨pp, 0, none⟩), .int .i64 i] w fun e w' => ∃ tb, e = .returned (.tuple #[.pointer (some ⟨tb, 0, none⟩), .int .i64 0]) ∧ PV w0 pp n c V ((tb, treeO pp i) :: R) w' := by
  have HS := Lib.hid (H.root i hi hn)
  clear H
  go_enter Tryz.func24, Tryz.ntmps24
  go_wp2_with fail
  refine HS.out.mono ?_
  rintro e w4 ⟨rfl, H4⟩
  have H5 := H4.push (treeO pp i)
  have HZ : Hid (PV w0 pp n c V ((w4.heap.size, treeO pp i) :: R) (w4.alloc (treeO pp i))) := Lib.hid H5
  clear H4 H5 HS
  go_wp2_with fail
  go_returns
  exact ⟨_, rfl, HZ.out⟩
set_option maxHeartbeats 4000000 in
/-- Open, of a pager that is made. -/
theorem tabopen_any (H : PV w0 pp n c V R w) (hn : 1 < n) :
    Calls Tryz.prog 33 #[.pointer (some ⟨pp, 0, none⟩)] w fun e w' => ∃ tt tb, e = .returned (.tuple #[.pointer (some ⟨tt, 0, none⟩), .int .i64 0]) ∧ TabR pp tt tb ((tt, tabO tb) :: (treesL pp tb 5 ++ R)) ∧ PV w0 pp n c V ((tt, tabO tb) :: (treesL pp tb 5 ++ R)) w' := by
  have H0 := H.push (tabK (fun _ => 0) 0)
  have hlo := H.below.size
  have hf := H.fresh
  obtain ⟨tt, htt⟩ : ∃ tt, w.heap.size = tt := ⟨_, rfl⟩
  rw [htt] at H0 hlo hf
  have HH := Lib.hid (And.intro H0 (And.intro hlo hf))
  have hz : w.alloc (.cells #[.pointer none, .pointer none, .pointer none, .pointer none, .pointer none] 69) = w.alloc (tabK (fun _ => 0) 0) := rfl
  obtain ⟨W0, hW0⟩ : ∃ W0, w.alloc (tabK (fun _ => 0) 0) = W0 := ⟨_, rfl⟩
  rw [hW0] at HH hz
  clear H H0 hlo hf hW0
  go_enter Tryz.func33, Tryz.ntmps33
  go_wp2_with fail
  go_loopw [8] (fun s8 wr => ∃ (k : Nat) (tb : Nat → Nat), s8 = .int .i64 k ∧ k ≤ 5 ∧ Hid (PV w0 pp n c V ((tt, tabK tb k) :: (treesL pp tb k ++ R)) wr ∧ ∀ x ∈ treesL pp tb k ++ R, x.1 ≠ tt)) (fun s8 _ => 5 - (intOf s8).toNat)
  case atStart => exact ⟨0, fun _ => 0, rfl, Nat.zero_le _, Lib.hid ⟨HH.out.1, HH.out.2.2⟩⟩
  case round =>
    obtain ⟨k, tb, rfl, hk, HI⟩ := hrel
    by_cases h5 : k < 5
    · have HO := Lib.hid (topen1 (i := (k : Int)) HI.out.1 hn (by omega))
      have q1 : decide ((k : Int) < 5) = true := decide_eq_true (by omega)
      have q2 : (k : Int) < 5 := by omega
      have q3 : IntKind.i64.wrap ((k : Int) + 1) = (k : Int) + 1 := IntWalk.i64_in _ (by omega)
      have q4 : (0 : Int) ≤ (k : Int) := by omega
      have q5 : ¬ (5 ≤ k) := by omega
      clear hk
      go_wp2_with fail
      refine HO.out.mono ?_
      rintro e w4 ⟨x, rfl, H4⟩
      have hne : x ≠ tt := fun e => by
        have h1 := H4.mem (x := (x, treeO pp k)) (by simp)
        have h2 := H4.mem (x := (tt, tabK tb k)) (by simp)
        rw [e] at h1
        have h3 := h1.symm.trans h2
        simp [treeO, tabK] at h3
      have H5 : PV w0 pp n c V ((tt, tabK tb k) :: ((treesL pp tb k ++ [(x, treeO pp k)]) ++ R)) w4 := H4.sub _ fun y hy => by
        simp only [List.mem_append, List.mem_cons, List.not_mem_nil, or_false] at hy ⊢
        rcases hy with h | (h | h) | h <;> simp [h]
      have hnt : ∀ y ∈ (treesL pp tb k ++ [(x, treeO pp k)]) ++ R, y.1 ≠ tt := fun y hy => by
        simp only [List.mem_append, List.mem_cons, List.not_mem_nil, or_false] at hy
        rcases hy with (h | rfl) | h
        · exact HI.out.2 y (List.mem_append_left _ h)
        · exact hne
        · exact HI.out.2 y (List.mem_append_right _ h)
      have H6 := H5.into (o := k) (v := .pointer (some ⟨x, 0, none⟩)) hnt (by decide) HH.out.2.1
      have hc : ∃ u, w4.cell? ⟨tt, k, none⟩ = some u := by
        rw [cell_of_row _ _ _ _ _ _ (H5.mem (x := (tt, tabK tb k)) (by simp))]
        exact ⟨_, Array.getElem?_eq_getElem (by rw [tarr_size]; exact h5)⟩
      obtain ⟨u, hc⟩ := hc
      have hfz : w4.frozen? ⟨tt, k, none⟩ = false := frozen_of_row _ _ _ _ _ (H5.mem (x := (tt, tabK tb k)) (by simp))
      have e1 : (tarr tb k).setIfInBounds k (.pointer (some ⟨x, 0, none⟩)) = tarr (updF tb k x) (k + 1) := by
        show _ = (tarr (updF tb k x) k).setIfInBounds k (.pointer (some ⟨updF tb k x k, 0, none⟩))
        rw [tarr_upd tb k x k (Nat.le_refl _), updF_same]
      have HZ : Hid (PV w0 pp n c V ((tt, tabK (updF tb k x) (k + 1)) :: (treesL pp (updF tb k x) (k + 1) ++ R)) (w4.setCell ⟨tt, k, none⟩ (.pointer (some ⟨x, 0, none⟩))) ∧ ∀ y ∈ treesL pp (updF tb k x) (k + 1) ++ R, y.1 ≠ tt) := Lib.hid ⟨by
        rw [treesL_upd]
        unfold tabK
        rw [← e1]
        exact H6, by rw [treesL_upd]; exact hnt⟩
      have HK := Lib.hid h5
      clear H4 H5 H6 e1 hnt hne h5
      go_wp2_with fail
      go_roundw
      case measure => have := HK.out; simp [intOf]; omega
      case rel => exact ⟨k + 1, updF tb k x, by simp, HK.out, HZ⟩
    · obtain rfl : k = 5 := by omega
      clear hk h5
      go_wp2_with fail
      go_returns
      refine ⟨tt, tb, rfl, ⟨by simp, fun i hi => ?_⟩, HI.out.1⟩
      have : (tb i, treeO pp i) ∈ treesL pp tb 5 := List.mem_map.2 ⟨i, List.mem_range.2 hi, rfl⟩
      simp [this]
end
end Go.Proofs.YtcjfnfdinhbdlaaGreatDoor
namespace Go.Proofs.YtcjfnfdinhbdlaaGreatDoor
set_option maxRecDepth 100000
open Go.ChangeShapes Go.WideShapes Go.ChangeAt Go.RowKit Go.PlainAid Go.Deep
attribute [local go_sem] Oper.semAt_some
theorem fmt_root0 (V : Int → ByteArray) (j : Int) : rootZ (fmtV V 1) j = 0 := by
  unfold fmtV
  rw [updV_same]
  exact root_zero j
theorem fmt_used (V : Int → ByteArray) : ∀ n : Nat, n ≤ 2048 → usedN (fmtV V 0) n = min n 2
  | 0, _ => rfl
  | n + 1, h => by
    show usedN (fmtV V 0) n + (hasB (fmtV V 0) (n : Int)).toNat = _
    rw [fmt_used V n (by omega), fmt_has (by omega) (by omega)]
    by_cases h2 : n < 2
    · rw [decide_eq_true (p := (n : Int) < 2) (by omega)]
      show min n 2 + 1 = _
      omega
    · rw [decide_eq_false (p := (n : Int) < 2) (by omega)]
      show min n 2 + 0 = _
      omega
theorem fmt_bits (V : Int → ByteArray) {n : Nat} (h : n ≤ 1024) (h2 : 2 ≤ n) : BitsOk (fmtV V) n where
  size := by
    unfold fmtV
    rw [updV_other _ _ (by decide), updV_same]
    decide
  size1 := by
    unfold fmtV
    rw [updV_same]
    decide
  pages := h
  two := h2
  zero := by rw [fmt_has (by decide) (by decide)]; rfl
  one := by rw [fmt_has (by decide) (by decide)]; rfl
theorem fmt_trees (V : Int → ByteArray) {n : Nat} (h : n ≤ 1024) (h2 : 2 ≤ n) : TreesV (fmtV V) n 2 (fun _ => []) (fun _ => []) where
  bits := fmt_bits V h h2
  tree := fun i _ => .inl ⟨fmt_root0 V _, rfl, rfl⟩
  nodup := fun _ _ => List.nodup_nil
  apart := fun _ _ _ _ _ _ hc => by cases hc
  used := by rw [fmt_used V n (by omega)]; simp; omega
theorem fmt_tab (V : Int → ByteArray) {n : Nat} (h : n ≤ 1024) (h2 : 2 ≤ n) : TabV (fmtV V) n 2 [] (fun _ => []) (fun _ => []) := ⟨fmt_trees V h h2, fun _ _ => IsW.nil _, OpsK.nil⟩
def BegPost (w : World) (e : Ending) (w' : World) : Prop :=
  ∃ pp p tt tb V, e = .returned (.tuple #[.pointer (some ⟨p, 0, none⟩), .pointer (some ⟨pp, 0, none⟩), .pointer (some ⟨tt, 0, none⟩)]) ∧ TabR pp tt tb ((tt, tabO tb) :: (treesL pp tb 5 ++ [])) ∧ PV w pp 938 2 (fmtV V) ((tt, tabO tb) :: (treesL pp tb 5 ++ [])) w'
set_option maxHeartbeats 2000000 in
theorem begun13_any (w : World) : Calls Tryz.prog 10 #[] w (BegPost w) := by
  have HN := Lib.hid (new_any 1800 w (by omega) (by omega))
  rw [show (1800 : Int).toNat = 1800 from rfl] at HN
  have hst := formatted_settled 1800 860 (by omega) (by omega) (by omega)
  have HST := Lib.hid hst
  have hpg : (firstHd 1800 860).pages = 938 := by show min _ _ = _; omega
  have hok : ∀ p q bm, (⟨p, q, bm, 0, formatted (newD 1800) 860, firstHd 1800 860, noPages⟩ : Sto).Ok := fun p q bm =>
    ⟨⟨by show 2 ≤ _; omega, by show 0 ≤ _; omega, by show 860 ≤ _; omega, by rw [hpg]; omega⟩, hst.free.2, by rw [hpg]; show 2 + 860 + 938 ≤ _; rw [formatted_n 1800 860 (by omega)]; omega, noPages_ok _⟩
  have HOK := Lib.hid hok
  have HPG := Lib.hid hpg
  clear hst hok hpg
  go_enter Tryz.func10, Tryz.ntmps10
  go_wp2_with fail
  refine HN.out.mono ?_
  rintro e w1 ⟨F, rfl, hd, hb, ho⟩
  have H1 : OwnL w F.p (newD 1800) [] w1 := OwnAt.owns ⟨F, rfl, hd, hb, ho⟩
  have HF := Lib.hid (format_any H1 ⟨rfl, rfl⟩ 860 (by omega) (by show 860 + 3 ≤ 1800; omega) (by show 0 < 100000; omega))
  clear HN hd hb ho H1
  generalize F.p = p at *
  go_wp2_with fail
  refine HF.out.mono ?_
  rintro e w2 ⟨rfl, H2⟩
  have HO := Lib.hid (HST.out.opens H2)
  clear HF H2
  go_wp2_with fail
  refine HO.out.mono ?_
  rintro e w3 ⟨q, bm, rfl, hq, hbm, H3⟩
  have HP := Lib.hid (pnew_any H3 (HOK.out p q bm) (by rw [HPG.out]; omega))
  clear HO H3
  go_wp2_with fail
  refine HP.out.mono ?_
  rintro e w4 ⟨pp, hc, rfl, H4⟩
  have HV : Hid (∃ V, PV w pp 938 0 V [] w4) := Lib.hid ⟨_, _, H4, HPG.out, rfl⟩
  clear H4 HP
  obtain ⟨V, H5⟩ := HV.out
  have HFM := Lib.hid (H5.format (by omega) (by omega))
  clear H5 HV
  go_wp2_with fail
  refine HFM.out.mono ?_
  rintro e w6 ⟨rfl, H6⟩
  have HTO := Lib.hid (tabopen_any H6 (by omega))
  clear H6 HFM
  go_wp2_with fail
  refine HTO.out.mono ?_
  rintro e w7 ⟨tt, tb, rfl, hR, H7⟩
  have HZ := Lib.hid (And.intro hR H7)
  clear hR H7 HTO
  go_wp2
  go_returns
  exact ⟨pp, p, tt, tb, V, rfl, HZ.out.1, HZ.out.2⟩
end Go.Proofs.YtcjfnfdinhbdlaaGreatDoor
