/- The law's does: cache and reference side by side. -/
import Derived.Test.YtomgiemnkbjebaaCacZ
import Derived.Deep.DeepCutAuto
import Derived.Deep.CutBlock
namespace Go.Proofs.Ytomgiemnkbjebaa
set_option maxRecDepth 100000
open Go.ChangeShapes Go.WideShapes Go.ChangeAt Go.RowKit Go.PlainAid

namespace KA
/-- Cache and reference, side by side. -/
def Both (w0 : World) (p q : Nat) (most : Int) (L : List E) (w : World) : Prop := ∃ ao nn cap, CaT w0 p most L [(q, bC most (.slice ao nn cap))] w ∧ Items w0.heap.size w (.slice ao nn cap) L
/-- Cache and reference, and next beside them, in a box, and the call in another one. -/
def NX (w0 : World) (p q A N : Nat) (most : Int) (oa : Obj) (L M : List E) (w : World) : Prop := ∃ ao nn cap u RB, Fr w0 (.slice ao nn cap) M RB ∧ CaT w0 p most L ((N, bC most (.slice ao nn cap)) :: (A, oa) :: (q, bC most u) :: RB) w
theorem fr_ne {w0 : World} {u : Value} {M : List E} {RB : List (Nat × Obj)} (hF : Fr w0 u M RB) {w : World} {b : Nat} {most : Int} {v : Value} (hw : ∀ c o, (c, o) ∈ RB → w.heap[c]? = some o) (hb : w.heap[b]? = some (bC most v)) : ∀ x ∈ RB, x.1 ≠ b := by
  rintro ⟨c, o⟩ hx e
  obtain ⟨cur, rfl⟩ := hF.2 c o hx
  have h1 := hw c _ hx
  have e' : c = b := e
  rw [e', hb] at h1
  injection h1 with h1
  injection h1 with _ h1
  exact absurd h1 (by decide)
theorem nx_of {w0 : World} {p q A N : Nat} {most : Int} {oa : Obj} {u0 u : Value} {L M : List E} {R : List (Nat × Obj)} {w : World} {ao : Option Addr} {nn cap : Nat} (h : CaT w0 p most L ((N, bC most u0) :: (A, oa) :: (q, bC most u) :: R) w) (hI : Items w0.heap.size w (.slice ao nn cap) M)
    (h0 : w0.heap.size ≤ N) (hA : A ≠ N) (hq : q ≠ N) : ∃ W6, (storeS 29 (.pointer (some ⟨N, 0, none⟩)) (.agg #[.int .i64 most, .slice ao nn cap])).run Try.prog w = .ok () W6 ∧ NX w0 p q A N most oa L M W6 := by
  have hN : BoxC w N most u0 := h.mem (x := (N, bC most u0)) List.mem_cons_self
  obtain ⟨RB, hF, hC⟩ := h.frame hI
  obtain ⟨W6, hst, hbx, hoth, hbel, _⟩ := hN.store most (.slice ao nn cap) rfl
  have hne := fr_ne hF (fun c o hc => (hC.known c o (List.mem_append_left _ hc)).1) hN
  refine ⟨W6, hst, ao, nn, cap, u, RB, hF, CaT.reset (hC.sub (R' := (N, bC most u0) :: (A, oa) :: (q, bC most u) :: RB) fun b o hb => ?_) (fun x hx => ?_) hoth hbx (hbel _ _ hC.below h0)⟩
  · rcases List.mem_cons.1 hb with hb | hb
    · exact List.mem_append_right _ (hb ▸ List.mem_cons_self)
    · rcases List.mem_cons.1 hb with hb | hb
      · exact List.mem_append_right _ (List.mem_cons_of_mem _ (hb ▸ List.mem_cons_self))
      · rcases List.mem_cons.1 hb with hb | hb
        · exact List.mem_append_right _ (List.mem_cons_of_mem _ (List.mem_cons_of_mem _ (hb ▸ List.mem_cons_self)))
        · exact List.mem_append_left _ hb
  · rcases List.mem_cons.1 hx with rfl | hx
    · exact hA
    · rcases List.mem_cons.1 hx with rfl | hx
      · exact hq
      · exact hne x hx
theorem sa_store {w0 : World} {p q A N nb : Nat} {most : Int} {oa : Obj} {u0 u : Value} {L M : List E} {w : World} {ao : Option Addr} {nn cap : Nat} (h : SA w0 p most L M (.slice ao nn cap) nb [(N, bC most u0), (A, oa), (q, bC most u)] w) (h0 : w0.heap.size ≤ N) (hA : A ≠ N) (hq : q ≠ N) :
    (w.cell? ⟨nb, 0, none⟩ = some (.int .i64 most) ∧ w.cell? ⟨nb, 1, none⟩ = some (.slice ao nn cap)) ∧ ∃ W6, (storeS 29 (.pointer (some ⟨N, 0, none⟩)) (.agg #[.int .i64 most, .slice ao nn cap])).run Try.prog w = .ok () W6 ∧ NX w0 p q A N most oa L M W6 := by
  obtain ⟨RB, hF, hC⟩ := h
  have hnb : BoxC w nb most (.slice ao nn cap) := hC.mem (x := (nb, bC most (.slice ao nn cap))) (List.mem_append_right _ List.mem_cons_self)
  obtain ⟨n0, n1, _⟩ := hnb.read
  exact ⟨⟨n0, n1⟩, nx_of (R := []) (hC.sub fun b o hb => List.mem_append_right _ (List.mem_cons_of_mem _ hb)) (hF.on hC) h0 hA hq⟩
theorem sa_act {w0 : World} {p q A N nb : Nat} {most : Int} {x : ActV} {u0 u u' : Value} {L M : List E} {w : World} (h : SA w0 p most L M u' nb [(N, bC most u0), (A, .cells #[.int .i64 x.kind, .int .i64 x.key, .string x.val] 35 (0, 0)), (q, bC most u)] w) :
    w.cell? ⟨A, 1, none⟩ = some (.int .i64 x.key) ∧ w.cell? ⟨A, 2, none⟩ = some (.string x.val) := by
  obtain ⟨RB, hF, hC⟩ := h
  have ha := hC.mem (x := (A, .cells #[.int .i64 x.kind, .int .i64 x.key, .string x.val] 35 (0, 0))) (List.mem_append_right _ (List.mem_cons_of_mem _ (List.mem_cons_of_mem _ List.mem_cons_self)))
  exact ⟨by rw [cell_of_row _ _ _ _ _ _ ha]; rfl, by rw [cell_of_row _ _ _ _ _ _ ha]; rfl⟩
theorem nx_act {w0 : World} {p q A N : Nat} {most : Int} {x : ActV} {L M : List E} {w : World} (h : NX w0 p q A N most (.cells #[.int .i64 x.kind, .int .i64 x.key, .string x.val] 35 (0, 0)) L M w) :
    w.cell? ⟨A, 1, none⟩ = some (.int .i64 x.key) := by
  obtain ⟨_, _, _, _, RB, hF, hC⟩ := h
  have ha := hC.mem (x := (A, .cells #[.int .i64 x.kind, .int .i64 x.key, .string x.val] 35 (0, 0))) (List.mem_cons_of_mem _ List.mem_cons_self)
  rw [cell_of_row _ _ _ _ _ _ ha]; rfl
theorem sa_get {w0 : World} {p nb : Nat} {most : Int} {L M L2 : List E} {u' : Value} {R : List (Nat × Obj)} {w : World} {k : Int} (h : SA w0 p most L M u' nb R w) (hl : L.length ≤ 4096) (g : ByteArray) (b : Bool) (h1 : (getV k L).getD ⟨#[]⟩ = g) (h2 : (getV k L).isSome = b) (h4 : getL k L = L2) :
    Calls Try.prog 17 #[.pointer (some ⟨p, 0, none⟩), .int .i64 k] w fun e w' => e = .returned (.tuple #[.string g, .bool b]) ∧ SA w0 p most L2 M u' nb R w' := by
  obtain ⟨RB, hF, hC⟩ := h
  exact (get_is hl g b h1 h2 h4 w hC).mono fun e w' h => ⟨h.1, RB, hF, h.2⟩
theorem sa_put {w0 : World} {p nb : Nat} {most : Nat} {L M L2 : List E} {u' : Value} {R : List (Nat × Obj)} {w : World} {k : Int} {v : ByteArray} (h : SA w0 p (most : Int) L M u' nb R w) (hm : 1 ≤ most) (hm2 : most ≤ 1024) (hl : L.length ≤ most) (g : Int) (b : Bool) (e0 : Int) (h1 : (putK most k L).getD 0 = g) (h2 : (putK most k L).isSome = b) (h3 : putE most k L = e0) (h4 : putL most k v L = L2) :
    Calls Try.prog 16 #[.pointer (some ⟨p, 0, none⟩), .int .i64 k, .string v] w fun e w' => e = .returned (.tuple #[.int .i64 g, .bool b, .int .i64 e0]) ∧ SA w0 p (most : Int) L2 M u' nb R w' := by
  obtain ⟨RB, hF, hC⟩ := h
  exact (put_is hm hm2 hl g b e0 h1 h2 h3 h4 w hC).mono fun e w' h => ⟨h.1, RB, hF, h.2⟩
theorem pinB_one (k : Int) (L : List E) : pinB k 1 L = decide (posK k L < L.length) := by
  unfold pinB
  simp
theorem pinB_back (k : Int) (L : List E) : pinB k (-1) L = decide (posK k L < L.length ∧ ((L[posK k L]?).map (·.pins)).getD 0 ≠ 0) := by
  unfold pinB findE
  cases h : L[posK k L]? with
  | none =>
    have := List.getElem?_eq_none_iff.1 h
    simp
  | some x => simp
theorem nx_pin {w0 : World} {p q A N : Nat} {most : Int} {oa : Obj} {L M : List E} {w : World} {k : Int} (h : NX w0 p q A N most oa L M w) (hl : L.length ≤ 4096) (hpn : ∀ e ∈ L, e.pins ≤ 1048576) (b : Bool) (hb : pinB k 1 L = b) :
    Calls Try.prog 18 #[.pointer (some ⟨p, 0, none⟩), .int .i64 k] w fun e w' => e = .returned (.bool b) ∧ NX w0 p q A N most oa (pinR k 1 L) M w' := by
  obtain ⟨ao, nn, cap, u, RB, hF, hC⟩ := h
  subst hb
  refine (pin_any hC k hl hpn).mono fun e w' h => ?_
  obtain ⟨h1, h2⟩ := h
  rw [← pinB_one] at h1 h2
  exact ⟨h1, ao, nn, cap, u, RB, hF, h2⟩
theorem nx_unpin {w0 : World} {p q A N : Nat} {most : Int} {oa : Obj} {L M : List E} {w : World} {k : Int} (h : NX w0 p q A N most oa L M w) (hl : L.length ≤ 4096) (hpn : ∀ e ∈ L, e.pins ≤ 1048576) (b : Bool) (hb : pinB k (-1) L = b) :
    Calls Try.prog 23 #[.pointer (some ⟨p, 0, none⟩), .int .i64 k] w fun e w' => e = .returned (.bool b) ∧ NX w0 p q A N most oa (pinR k (-1) L) M w' := by
  obtain ⟨ao, nn, cap, u, RB, hF, hC⟩ := h
  subst hb
  refine (unpin_any hC k hl hpn).mono fun e w' h => ?_
  obtain ⟨h1, h2⟩ := h
  rw [← pinB_back] at h1 h2
  exact ⟨h1, ao, nn, cap, u, RB, hF, h2⟩
theorem nx_drop {w0 : World} {p q A N : Nat} {most : Int} {oa : Obj} {L M : List E} {w : World} {k : Int} (h : NX w0 p q A N most oa L M w) (hO : Once L) (hl : L.length ≤ 4096) (b : Bool) (hb : decide (posK k L < L.length) = b) :
    Calls Try.prog 24 #[.pointer (some ⟨p, 0, none⟩), .int .i64 k] w fun e w' => e = .returned (.bool b) ∧ NX w0 p q A N most oa (noK k L) M w' := by
  obtain ⟨ao, nn, cap, u, RB, hF, hC⟩ := h
  subst hb
  refine (drop_any hC k hl).mono fun e w' h => ?_
  obtain ⟨h1, h2⟩ := h
  have hd : dropL k L = noK k L := by
    unfold dropL
    split
    · rename_i hp
      obtain ⟨x, hx, hk, _⟩ := find_some hp
      exact (noK_some hO hx hk).symm
    · rename_i hp
      exact (noK_none hp).symm
  rw [hd] at h2
  exact ⟨h1, ao, nn, cap, u, RB, hF, h2⟩
theorem nx_fin {w0 : World} {p q A N : Nat} {most : Int} {oa : Obj} {L : List E} {w : World} (h : NX w0 p q A N most oa L L w) (h0 : w0.heap.size ≤ q) : ∃ ao nn cap w9, w.cell? ⟨N, 0, none⟩ = some (.int .i64 most) ∧ w.cell? ⟨N, 1, none⟩ = some (.slice ao nn cap) ∧
    (storeS 29 (.pointer (some ⟨q, 0, none⟩)) (.agg #[.int .i64 most, .slice ao nn cap])).run Try.prog w = .ok () w9 ∧ Both w0 p q most L w9 := by
  obtain ⟨ao, nn, cap, u, RB, hF, hC⟩ := h
  have hN : BoxC w N most (.slice ao nn cap) := hC.mem (x := (N, bC most (.slice ao nn cap))) List.mem_cons_self
  have hq : BoxC w q most u := hC.mem (x := (q, bC most u)) (List.mem_cons_of_mem _ (List.mem_cons_of_mem _ List.mem_cons_self))
  obtain ⟨n0, n1, _⟩ := hN.read
  obtain ⟨w9, hst, hbx, hoth, hbel, _⟩ := hq.store most (.slice ao nn cap) rfl
  have hne := fr_ne hF (fun c o hc => (hC.known c o (List.mem_cons_of_mem _ (List.mem_cons_of_mem _ (List.mem_cons_of_mem _ hc)))).1) hq
  have hR := CaT.reset (hC.sub (R' := (q, bC most u) :: RB) fun b o hb => List.mem_cons_of_mem _ (List.mem_cons_of_mem _ hb)) hne hoth hbx (hbel _ _ hC.below h0)
  exact ⟨ao, nn, cap, w9, n0, n1, hst, ao, nn, cap, hR.sub fun b o hb => by rw [List.mem_singleton] at hb; rw [hb]; exact List.mem_cons_self, hF.1 w9 fun b o hb => (hR.known b o (List.mem_cons_of_mem _ hb)).1⟩
attribute [local go_sem ↓ high] store_i app_i build_i store_c
theorem drew_below4 (w : World) : Below w.heap.size w w.drew := ⟨rfl, rfl, rfl, Nat.le_refl _, fun _ _ => rfl⟩
theorem sa_of2 {w0 : World} {p : Nat} {most : Int} {L M : List E} {R : List (Nat × Obj)} {W w5 : World} {ao : Option Addr} {nn cap : Nat} (h : CaT w0 p most L R W) (hn : w0.heap.size ≤ W.heap.size) (hb : Below (W.alloc (.cells #[.int .i64 0, .slice none 0 0] 29)).heap.size (W.alloc (.cells #[.int .i64 0, .slice none 0 0] 29)) w5) (hI : Items w0.heap.size w5 (.slice ao nn cap) M) :
    ∃ W6, (storeS 29 (.pointer (some ⟨W.heap.size, 0, none⟩)) (.agg #[.int .i64 most, .slice ao nn cap])).run Try.prog w5 = .ok () W6 ∧ SA w0 p most L M (.slice ao nn cap) W.heap.size R W6 := by
  have hba : Below W.heap.size W (W.alloc (.cells #[.int .i64 0, .slice none 0 0] 29)) := by go_grown
  have hq : BoxC (W.alloc (.cells #[.int .i64 0, .slice none 0 0] 29)) W.heap.size 0 (.slice none 0 0) := heap_alloc_new W _
  have hC5 := (h.add hba (Nat.le_refl _) hq).on hb
  have hq5 := hq.on hb (by simp)
  obtain ⟨RB, hF, hC⟩ := hC5.frame hI
  obtain ⟨W6, hst, hbx, hoth, hbel, _⟩ := hq5.store most (.slice ao nn cap) rfl
  have hne := fr_ne hF (fun c o hc => (hC.known c o (List.mem_append_left _ hc)).1) hq5
  have hr := CaT.reset (hC.sub (R' := (W.heap.size, bC 0 (.slice none 0 0)) :: (RB ++ R)) fun b o hb => ?_) (fun x hx => ?_) hoth hbx (hbel _ _ hC.below hn)
  · refine ⟨W6, hst, RB, hF, hr.sub fun b o hb => ?_⟩
    rcases List.mem_append.1 hb with hb | hb
    · exact List.mem_cons_of_mem _ (List.mem_append_left _ hb)
    · rcases List.mem_cons.1 hb with hb | hb
      · exact hb ▸ List.mem_cons_self
      · exact List.mem_cons_of_mem _ (List.mem_append_right _ hb)
  · rcases List.mem_cons.1 hb with hb | hb
    · exact List.mem_append_right _ (hb ▸ List.mem_cons_self)
    · rcases List.mem_append.1 hb with hb | hb
      · exact List.mem_append_left _ hb
      · exact List.mem_append_right _ (List.mem_cons_of_mem _ hb)
  · rcases List.mem_append.1 hx with hx | hx
    · exact hne x hx
    · have := heap_in (h.known x.1 x.2 hx).1
      omega
theorem ra_both {w0 : World} {p : Nat} {most : Int} {L M : List E} {R : List (Nat × Obj)} {W : World} {f : Nat} {args : Array Value} {ret : Value → Ending} (h : CaT w0 p most L R W) (hn : w0.heap.size ≤ W.heap.size)
    (hop : ∀ W', Below W.heap.size W W' → Calls Try.prog f args W' fun e w5 => ∃ ao nn cap, e = ret (.slice ao nn cap) ∧ Items w0.heap.size w5 (.slice ao nn cap) M ∧ Below W'.heap.size W' w5) :
    (Calls Try.prog f args W.drew fun e w5 => ∃ ao nn cap W6, e = ret (.slice ao nn cap) ∧ (storeS 29 (.pointer (some ⟨w5.heap.size, 0, none⟩)) (.agg #[.int .i64 most, .slice ao nn cap])).run Try.prog (w5.alloc (.cells #[.int .i64 0, .slice none 0 0] 29)) = .ok () W6 ∧ Hid (SA w0 p most L M (.slice ao nn cap) w5.heap.size R W6)) ∧
    (Calls Try.prog f args (W.alloc (.cells #[.int .i64 0, .slice none 0 0] 29)).drew fun e w5 => ∃ ao nn cap W6, e = ret (.slice ao nn cap) ∧ (storeS 29 (.pointer (some ⟨W.heap.size, 0, none⟩)) (.agg #[.int .i64 most, .slice ao nn cap])).run Try.prog w5 = .ok () W6 ∧ Hid (SA w0 p most L M (.slice ao nn cap) W.heap.size R W6)) := by
  have hba : Below W.heap.size W (W.alloc (.cells #[.int .i64 0, .slice none 0 0] 29)) := by go_grown
  constructor
  · refine (hop _ (drew_below4 W)).mono ?_
    rintro e w5 ⟨ao, nn, cap, rfl, hI, hb⟩
    obtain ⟨W6, hst, hS⟩ := sa_of h ((drew_below4 W).trans hb) hI
    exact ⟨ao, nn, cap, W6, rfl, hst, Lib.hid hS⟩
  · refine (hop _ (hba.on (drew_below4 _))).mono ?_
    rintro e w5 ⟨ao, nn, cap, rfl, hI, hb⟩
    obtain ⟨W6, hst, hS⟩ := sa_of2 h hn ((drew_below4 _).trans hb) hI
    exact ⟨ao, nn, cap, W6, rfl, hst, Lib.hid hS⟩
end KA
end Go.Proofs.Ytomgiemnkbjebaa
