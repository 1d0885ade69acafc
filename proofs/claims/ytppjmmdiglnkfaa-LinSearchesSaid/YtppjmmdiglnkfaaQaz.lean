/- The reference's number: registers and counters. What its lists are of rising ones. The reference's Do: what it has in memory. -/
import Derived.Test.YtppjmmdiglnkfaaQam
import Derived.Test.YtppjmmdiglnkfaaQar
import Derived.StillTailTactics
namespace Go.Proofs.Ytppjmmdiglnkfaa
set_option maxRecDepth 100000
open Go.ChangeShapes Go.WideShapes Go.ChangeAt Go.RowKit Go.PlainAid Go.Deep

theorem count_none {x : Int} {r : List Int} (h : ∀ z ∈ r, ¬ z < x) : r.countP (· < x) = 0 := List.countP_eq_zero.2 fun z hz => by simpa using h z hz
theorem wout_none {x : Int} {L : List Int} (h : L.contains x = false) : woutL L x = L := by
  unfold woutL
  refine List.filter_eq_self.2 fun z hz => bne_iff_ne.2 fun e => ?_
  have : L.contains x = true := by rw [← e]; simpa using hz
  rw [h] at this
  cases this
theorem wout_rise {x : Int} : ∀ {L : List Int}, L.Pairwise (· < ·) → L.contains x = true → woutL L x = delL L x
  | [], _, h => by simp at h
  | y :: r, hp, h => by
    obtain ⟨hy, hr⟩ := List.pairwise_cons.1 hp
    by_cases e : y = x
    · subst e
      have h1 : woutL (y :: r) y = woutL r y := by unfold woutL; simp
      have h2 : woutL r y = r := wout_none (by
        cases c : r.contains y with
        | false => rfl
        | true => exact absurd (hy y (by simpa using c)) (by omega))
      unfold delL
      rw [h1, h2, List.countP_cons, count_none (fun z hz => by have := hy z hz; omega)]
      simp
    · have hx : x ∈ r := by
        have : x ∈ y :: r := by simpa using h
        rcases List.mem_cons.1 this with c | c
        · exact absurd c.symm e
        · exact c
      have hlt := hy x hx
      have h1 : woutL (y :: r) x = y :: woutL r x := by unfold woutL; simp [e]
      rw [h1, wout_rise hr (by simpa using hx)]
      unfold delL
      rw [List.countP_cons, if_pos (by simpa using hlt)]
      rfl
theorem wout_in {x : Int} {L : List Int} : decide ((woutL L x).length < L.length) = L.contains x := by
  cases c : L.contains x with
  | false => rw [wout_none c]; simp
  | true =>
    refine decide_eq_true ?_
    rcases Nat.lt_or_eq_of_le (wout_len L x) with h | h
    · exact h
    · unfold woutL at h
      have := List.length_filter_eq_length_iff.1 h x (by simpa using c)
      simp at this
theorem wst_full (x : Int) : ∀ (L M : List Int), L.foldl (wstep x) (M, true) = (M ++ L, true)
  | [], M => by simp
  | y :: r, M => by
    rw [List.foldl_cons, show wstep x (M, true) y = (M ++ [y], true) by simp [wstep], wst_full x r]
    simp
theorem wst_ins (x : Int) : ∀ (L M : List Int), L.Pairwise (· < ·) → L.contains x = false → (if (L.foldl (wstep x) (M, false)).2 = true then (L.foldl (wstep x) (M, false)).1 else (L.foldl (wstep x) (M, false)).1 ++ [x]) = M ++ insL L x
  | [], M, _, _ => by simp [insL]
  | y :: r, M, hp, h => by
    obtain ⟨hy, hr⟩ := List.pairwise_cons.1 hp
    have hn : ¬ x = y ∧ r.contains x = false := by
      constructor
      · intro e; rw [e] at h; simp at h
      · cases c : r.contains x with
        | false => rfl
        | true =>
          have : (y :: r).contains x = true := by have : x ∈ r := by simpa using c
                                                  simp [this]
          rw [h] at this; cases this
    by_cases c : x < y
    · rw [List.foldl_cons, show wstep x (M, false) y = (M ++ [x] ++ [y], true) by simp [wstep, c], wst_full, if_pos rfl]
      unfold insL
      rw [List.countP_cons, count_none (r := r) (fun z hz => by have := hy z hz; omega), if_neg (by simp; omega)]
      simp
    · rw [List.foldl_cons, show wstep x (M, false) y = (M ++ [y], false) by simp [wstep, c], wst_ins x r (M ++ [y]) hr hn.2]
      unfold insL
      rw [List.countP_cons, if_pos (by simp; omega)]
      simp
theorem with_rise {x : Int} {L : List Int} (hp : L.Pairwise (· < ·)) (h : L.contains x = false) : withL L x = insL L x := by
  have := wst_ins x L [] hp h
  rw [List.nil_append] at this
  exact this
/-- What the reference's call leaves. -/
def CapOk (v : Value) : Prop := ∀ ao n c, v = .slice ao n c → n ≤ c
theorem CapOk.mk {ao : Option Addr} {n c : Nat} (h : n ≤ c) : CapOk (.slice ao n c) := fun _ _ _ e => by cases e; exact h
theorem CapOk.le {ao : Option Addr} {n c : Nat} (h : CapOk (.slice ao n c)) : n ≤ c := h _ _ _ rfl
theorem OwnI.capOk {n₀ : Nat} {W : World} {v : Value} {L : List Int} (h : OwnI n₀ W v L) : CapOk v := by
  rcases h.1 with ⟨_, ao, rfl⟩ | ⟨g, o, cap, cur, rfl, _, _, hc, _⟩
  · exact CapOk.mk (Nat.le_refl _)
  · exact CapOk.mk hc
/-- A slice in another one's block, or in none. -/
def slen : Value → Nat
  | .slice _ n _ => n
  | _ => 0
/-- It is no longer, too. -/
def SameB (v v' : Value) : Prop := (v'.ownBlock = v.ownBlock ∨ v'.ownBlock = none) ∧ slen v' ≤ slen v
def RDone (A : Ans) (w : World) (v : Value) (e : Ending) (w' : World) : Prop := ∃ v', e = .returned (.agg #[v', .int .i64 A.2.1, .bool A.2.2]) ∧ (IntsOf w' v' A.1 ∧ CapOk v' ∧ (SameB v v' ∨ OwnI w.heap.size w' v' A.1)) ∧ Below w.heap.size w w'
theorem RDone.eq {A : Ans} {w w' : World} {L : List Int} {n : Int} {b : Bool} (hA : A = (L, n, b)) {v' : Value} {v : Value} (ho : IntsOf w' v' L) (hc : CapOk v') (hl : SameB v v' ∨ OwnI w.heap.size w' v' L) (hb : Below w.heap.size w w') : RDone A w v (.returned (.agg #[v', .int .i64 n, .bool b])) w' := by
  subst hA
  exact ⟨v', rfl, ⟨ho, hc, hl⟩, hb⟩
/-- What the reference's number leaves: the slice that came in, or one of its own. -/
def RNum (A : Ans) (w : World) (v : Value) (L : List Int) (e : Ending) (w' : World) : Prop := ∃ v', e = .returned (.agg #[v', .int .i64 A.2.1, .bool A.2.2]) ∧ ((v' = v ∧ A.1 = L) ∨ OwnI w.heap.size w' v' A.1) ∧ Below w.heap.size w w'
theorem RNum.eq {A : Ans} {w w' : World} {v : Value} {L0 L : List Int} {n : Int} {b : Bool} (hA : A = (L, n, b)) {v' : Value} (ho : (v' = v ∧ L = L0) ∨ OwnI w.heap.size w' v' L) (hb : Below w.heap.size w w') : RNum A w v L0 (.returned (.agg #[v', .int .i64 n, .bool b])) w' := by
  subst hA
  exact ⟨v', rfl, ho, hb⟩
theorem IntsOf.one {w : World} {v : Value} {x : Int} (h : IntsOf w v [x]) : ∃ g o cap, v = .slice (some ⟨g, o, none⟩) 1 cap ∧ w.cell? ⟨g, o, none⟩ = some (.int .i64 x) := by
  rcases h with ⟨h0, _⟩ | ⟨b, o, cap, rfl, _, _, _, hr⟩
  · cases h0
  · exact ⟨b, o, cap, rfl, by have := (hr 0 x rfl).2; rwa [Nat.add_zero] at this⟩
theorem IntsOf.nil (w : World) (ao : Option Addr) (c : Nat) : IntsOf w (.slice ao 0 c) [] := .inl ⟨rfl, ao, c, rfl⟩
attribute [local go_sem ↓ high] store_d
set_option maxHeartbeats 4000000 in
theorem rreg_any (o : OpV) (ho : o.Wf) (hk : o.kind = 1) {v : Value} {L : List Int} {w : World} (h : IntsOf w v L) (hcp : CapOk v) : Calls Try.prog 95 #[v, Value.agg #[Value.int .i64 o.id, Value.int .i64 o.proc, Value.int .i64 o.obj, Value.int .i64 o.kind, Value.int .i64 o.meth, Value.int .i64 o.arg, Value.int .i64 o.sec, Value.bool o.done, Value.int .i64 o.res, Value.int .i64 o.inv, Value.int .i64 o.ret]] w (RNum (regC o L) w v L) := by
  have HB : Below w.heap.size w ((w.alloc (.cells #[Value.int .i64 o.id, Value.int .i64 o.proc, Value.int .i64 o.obj, Value.int .i64 o.kind, Value.int .i64 o.meth, Value.int .i64 o.arg, Value.int .i64 o.sec, Value.bool o.done, Value.int .i64 o.res, Value.int .i64 o.inv, Value.int .i64 o.ret] 43)).alloc (.cells #[.slice none 0 0, .int .i64 0, .bool false] 143)) := by go_grown
  have hop : OpAt ((w.alloc (.cells #[Value.int .i64 o.id, Value.int .i64 o.proc, Value.int .i64 o.obj, Value.int .i64 o.kind, Value.int .i64 o.meth, Value.int .i64 o.arg, Value.int .i64 o.sec, Value.bool o.done, Value.int .i64 o.res, Value.int .i64 o.inv, Value.int .i64 o.ret] 43)).alloc (.cells #[.slice none 0 0, .int .i64 0, .bool false] 143)) w.heap.size o := (OpAt.box w o).on (by go_grown)
  have hz : DoneZ ((w.alloc (.cells #[Value.int .i64 o.id, Value.int .i64 o.proc, Value.int .i64 o.obj, Value.int .i64 o.kind, Value.int .i64 o.meth, Value.int .i64 o.arg, Value.int .i64 o.sec, Value.bool o.done, Value.int .i64 o.res, Value.int .i64 o.inv, Value.int .i64 o.ret] 43)).alloc (.cells #[.slice none 0 0, .int .i64 0, .bool false] 143)) (w.heap.size + 1) := ⟨_, by have := heap_alloc_new (w.alloc (.cells #[Value.int .i64 o.id, Value.int .i64 o.proc, Value.int .i64 o.obj, Value.int .i64 o.kind, Value.int .i64 o.meth, Value.int .i64 o.arg, Value.int .i64 o.sec, Value.bool o.done, Value.int .i64 o.res, Value.int .i64 o.inv, Value.int .i64 o.ret] 43)) (.cells #[.slice none 0 0, .int .i64 0, .bool false] 143); rw [World.size_alloc] at this; exact this, rfl⟩
  have hsz : ((w.alloc (.cells #[Value.int .i64 o.id, Value.int .i64 o.proc, Value.int .i64 o.obj, Value.int .i64 o.kind, Value.int .i64 o.meth, Value.int .i64 o.arg, Value.int .i64 o.sec, Value.bool o.done, Value.int .i64 o.res, Value.int .i64 o.inv, Value.int .i64 o.ret] 43)).alloc (.cells #[.slice none 0 0, .int .i64 0, .bool false] 143)).heap.size = w.heap.size + 2 := by rw [World.size_alloc, World.size_alloc]
  obtain ⟨W1, hW1⟩ : ∃ W1, (w.alloc (.cells #[Value.int .i64 o.id, Value.int .i64 o.proc, Value.int .i64 o.obj, Value.int .i64 o.kind, Value.int .i64 o.meth, Value.int .i64 o.arg, Value.int .i64 o.sec, Value.bool o.done, Value.int .i64 o.res, Value.int .i64 o.inv, Value.int .i64 o.ret] 43)).alloc (.cells #[.slice none 0 0, .int .i64 0, .bool false] 143) = W1 := ⟨_, rfl⟩
  rw [hW1] at hop HB hz hsz
  have h1 := h.on HB
  have HO := Lib.hid h
  have HCP := Lib.hid hcp
  clear hcp
  have HB1 := Lib.hid HB
  have HZ := Lib.hid hz
  have HN := Lib.hid (And.intro hsz ho)
  obtain ⟨_, _, _, k3, k4, k5, k6, _⟩ := hop.cell
  rw [hk] at k3
  clear HB h hop ho hz hsz hk
  by_cases hl : L.length = 1
  · obtain ⟨x, rfl⟩ := List.length_eq_one_iff.1 hl
    obtain ⟨g, p, cap, rfl, hx⟩ := h1.one
    clear hl h1
    by_cases m1 : o.meth = 1
    · rw [m1] at k4
      have HA := Lib.hid (show regC o [x] = ([x], x, true) by simp [regC, m1])
      clear m1
      have HBR := HB1
      obtain ⟨W3, hst, hd⟩ := done_store (wr := W1) (b := w.heap.size + 1) HZ.out (.slice (some ⟨g, p, none⟩) 1 cap) (x) true rfl
      have r0 := hd.c0
      have r1 := hd.c1
      have r2 := hd.c2
      have HD := Lib.hid hd
      have HB3 := Lib.hid ((HB1.out).trans (hd.below.mono (Nat.le_succ _)))
      clear hd
      go_enter Try.func95, Try.ntmps95
      go_wp2_with fail
      refine bodyPost_ret (v := .agg #[.slice (some ⟨g, p, none⟩) 1 cap, .int .i64 x, .bool true]) (by simp [results, Try.results95, go_sem, r0, r1, r2]) rfl ?_
      exact RNum.eq HA.out (.inl ⟨rfl, rfl⟩) HB3.out
    · have q1 : (o.meth == 1) = false := beq_eq_false_iff_ne.2 m1
      by_cases m2 : o.meth = 2
      · rw [m2] at k4
        have HA := Lib.hid (show regC o [x] = ([o.arg], 0, true) by simp [regC, m2])
        clear m2
        obtain ⟨W3, hst, hd⟩ := done_store (wr := W1.alloc (.cells #[.int .i64 (o.arg)] 3)) (b := w.heap.size + 1) (HZ.out.on (by go_grown)) (.slice (some ⟨W1.heap.size, 0, none⟩) 1 1) (0) true rfl
        have r0 := hd.c0
        have r1 := hd.c1
        have r2 := hd.c2
        have HD := Lib.hid hd
        have HB3 := Lib.hid ((HB1.out.on (by go_grown)).trans (hd.below.mono (Nat.le_succ _)))
        clear hd
        go_enter Try.func95, Try.ntmps95
        go_wp2_with fail
        refine bodyPost_ret (v := .agg #[.slice (some ⟨W1.heap.size, 0, none⟩) 1 1, .int .i64 0, .bool true]) (by simp [results, Try.results95, go_sem, r0, r1, r2]) rfl ?_
        exact RNum.eq HA.out (.inr ((HD.out.own (n₀ := w.heap.size + 2) (by omega) (OwnI.fresh _ (by have := HN.out.1; show w.heap.size + 2 ≤ W1.heap.size; omega) _ HN.out.2.arg)).base (by omega))) HB3.out
      · have q2 : (o.meth == 2) = false := beq_eq_false_iff_ne.2 m2
        by_cases m3 : o.meth = 3
        · rw [m3] at k4
          by_cases e : x = o.arg
          · have HA := Lib.hid (show regC o [x] = ([o.sec], 1, true) by simp [regC, m3, e])
            have q : (x == o.arg) = true := beq_iff_eq.2 e
            clear m3 e
            go_enter Try.func95, Try.ntmps95
            go_wp2_with fail
            go_quiet (fail)
            have HBR := Lib.hid (HB1.out.on (below_drewN W1 nq))
            obtain ⟨W3, hst, hd⟩ := done_store (wr := (W1.drewN nq).alloc (.cells #[.int .i64 (o.sec)] 3)) (b := w.heap.size + 1) ((show DoneZ (W1.drewN nq) (w.heap.size + 1) from HZ.out).on (by go_grown)) (.slice (some ⟨W1.heap.size, 0, none⟩) 1 1) (1) true rfl
            have r0 := hd.c0
            have r1 := hd.c1
            have r2 := hd.c2
            have HD := Lib.hid hd
            have HB3 := Lib.hid ((HBR.out.on (by go_grown)).trans (hd.below.mono (Nat.le_succ _)))
            clear hd
            go_wp2_with fail
            refine bodyPost_ret (v := .agg #[.slice (some ⟨W1.heap.size, 0, none⟩) 1 1, .int .i64 1, .bool true]) (by simp [results, Try.results95, go_sem, r0, r1, r2]) rfl ?_
            exact RNum.eq HA.out (.inr ((HD.out.own (n₀ := w.heap.size + 2) (by omega) (OwnI.fresh (W1.drewN nq) (by have := HN.out.1; show w.heap.size + 2 ≤ W1.heap.size; omega) _ HN.out.2.sec)).base (by omega))) HB3.out
          · have HA := Lib.hid (show regC o [x] = ([x], 0, true) by simp [regC, m3, e])
            have q : (x == o.arg) = false := beq_eq_false_iff_ne.2 e
            clear m3 e
            go_enter Try.func95, Try.ntmps95
            go_wp2_with fail
            go_quiet (fail)
            have HBR := Lib.hid (HB1.out.on (below_drewN W1 nq))
            obtain ⟨W3, hst, hd⟩ := done_store (wr := (W1.drewN nq)) (b := w.heap.size + 1) (show DoneZ (W1.drewN nq) (w.heap.size + 1) from HZ.out) (.slice (some ⟨g, p, none⟩) 1 cap) (0) true rfl
            have r0 := hd.c0
            have r1 := hd.c1
            have r2 := hd.c2
            have HD := Lib.hid hd
            have HB3 := Lib.hid ((HBR.out).trans (hd.below.mono (Nat.le_succ _)))
            clear hd
            go_wp2_with fail
            refine bodyPost_ret (v := .agg #[.slice (some ⟨g, p, none⟩) 1 cap, .int .i64 0, .bool true]) (by simp [results, Try.results95, go_sem, r0, r1, r2]) rfl ?_
            exact RNum.eq HA.out (.inl ⟨rfl, rfl⟩) HB3.out
        · have q3 : (o.meth == 3) = false := beq_eq_false_iff_ne.2 m3
          have HA := Lib.hid (show regC o [x] = ([], 0, false) by simp [regC, noA, m1, m2, m3])
          clear m1 m2 m3
          go_enter Try.func95, Try.ntmps95
          go_wp2_with fail
          go_quiet (fail)
          have HBR := Lib.hid (HB1.out.on (below_drewN W1 nq))
          obtain ⟨W3, hst, hd⟩ := done_store (wr := (W1.drewN nq)) (b := w.heap.size + 1) (show DoneZ (W1.drewN nq) (w.heap.size + 1) from HZ.out) (.slice none 0 0) (0) false rfl
          have r0 := hd.c0
          have r1 := hd.c1
          have r2 := hd.c2
          have HD := Lib.hid hd
          have HB3 := Lib.hid ((HBR.out).trans (hd.below.mono (Nat.le_succ _)))
          clear hd
          go_wp2_with fail
          refine bodyPost_ret (v := .agg #[.slice none 0 0, .int .i64 0, .bool false]) (by simp [results, Try.results95, go_sem, r0, r1, r2]) rfl ?_
          exact RNum.eq HA.out (.inr (OwnI.nil _ _ none)) HB3.out
  · have hq : ((L.length : Int) != 1) = true := bne_iff_ne.2 (by omega)
    have HA := Lib.hid (show regC o L = ([], 0, false) by
      match L, hl with
      | [], _ => rfl
      | [x], hl => exact absurd rfl hl
      | _ :: _ :: _, _ => rfl)
    obtain ⟨ao, cap, rfl, _⟩ := h1.parts
    clear hl h1
    obtain ⟨W3, hst, hd⟩ := done_store (wr := W1) (b := w.heap.size + 1) HZ.out (.slice none 0 0) (0) false rfl
    have r0 := hd.c0
    have r1 := hd.c1
    have r2 := hd.c2
    have HD := Lib.hid hd
    have HB3 := Lib.hid ((HB1.out).trans (hd.below.mono (Nat.le_succ _)))
    clear hd
    go_enter Try.func95, Try.ntmps95
    go_wp2_with fail
    refine bodyPost_ret (v := .agg #[.slice none 0 0, .int .i64 0, .bool false]) (by simp [results, Try.results95, go_sem, r0, r1, r2]) rfl ?_
    exact RNum.eq HA.out (.inr (OwnI.nil _ _ none)) HB3.out
set_option maxHeartbeats 4000000 in
theorem rctr_any (o : OpV) (ho : o.Wf) (hk : o.kind = 2) {v : Value} {L : List Int} {w : World} (h : IntsOf w v L) (hcp : CapOk v) : Calls Try.prog 95 #[v, Value.agg #[Value.int .i64 o.id, Value.int .i64 o.proc, Value.int .i64 o.obj, Value.int .i64 o.kind, Value.int .i64 o.meth, Value.int .i64 o.arg, Value.int .i64 o.sec, Value.bool o.done, Value.int .i64 o.res, Value.int .i64 o.inv, Value.int .i64 o.ret]] w (RNum (ctrC o L) w v L) := by
  have HB : Below w.heap.size w ((w.alloc (.cells #[Value.int .i64 o.id, Value.int .i64 o.proc, Value.int .i64 o.obj, Value.int .i64 o.kind, Value.int .i64 o.meth, Value.int .i64 o.arg, Value.int .i64 o.sec, Value.bool o.done, Value.int .i64 o.res, Value.int .i64 o.inv, Value.int .i64 o.ret] 43)).alloc (.cells #[.slice none 0 0, .int .i64 0, .bool false] 143)) := by go_grown
  have hop : OpAt ((w.alloc (.cells #[Value.int .i64 o.id, Value.int .i64 o.proc, Value.int .i64 o.obj, Value.int .i64 o.kind, Value.int .i64 o.meth, Value.int .i64 o.arg, Value.int .i64 o.sec, Value.bool o.done, Value.int .i64 o.res, Value.int .i64 o.inv, Value.int .i64 o.ret] 43)).alloc (.cells #[.slice none 0 0, .int .i64 0, .bool false] 143)) w.heap.size o := (OpAt.box w o).on (by go_grown)
  have hz : DoneZ ((w.alloc (.cells #[Value.int .i64 o.id, Value.int .i64 o.proc, Value.int .i64 o.obj, Value.int .i64 o.kind, Value.int .i64 o.meth, Value.int .i64 o.arg, Value.int .i64 o.sec, Value.bool o.done, Value.int .i64 o.res, Value.int .i64 o.inv, Value.int .i64 o.ret] 43)).alloc (.cells #[.slice none 0 0, .int .i64 0, .bool false] 143)) (w.heap.size + 1) := ⟨_, by have := heap_alloc_new (w.alloc (.cells #[Value.int .i64 o.id, Value.int .i64 o.proc, Value.int .i64 o.obj, Value.int .i64 o.kind, Value.int .i64 o.meth, Value.int .i64 o.arg, Value.int .i64 o.sec, Value.bool o.done, Value.int .i64 o.res, Value.int .i64 o.inv, Value.int .i64 o.ret] 43)) (.cells #[.slice none 0 0, .int .i64 0, .bool false] 143); rw [World.size_alloc] at this; exact this, rfl⟩
  have hsz : ((w.alloc (.cells #[Value.int .i64 o.id, Value.int .i64 o.proc, Value.int .i64 o.obj, Value.int .i64 o.kind, Value.int .i64 o.meth, Value.int .i64 o.arg, Value.int .i64 o.sec, Value.bool o.done, Value.int .i64 o.res, Value.int .i64 o.inv, Value.int .i64 o.ret] 43)).alloc (.cells #[.slice none 0 0, .int .i64 0, .bool false] 143)).heap.size = w.heap.size + 2 := by rw [World.size_alloc, World.size_alloc]
  obtain ⟨W1, hW1⟩ : ∃ W1, (w.alloc (.cells #[Value.int .i64 o.id, Value.int .i64 o.proc, Value.int .i64 o.obj, Value.int .i64 o.kind, Value.int .i64 o.meth, Value.int .i64 o.arg, Value.int .i64 o.sec, Value.bool o.done, Value.int .i64 o.res, Value.int .i64 o.inv, Value.int .i64 o.ret] 43)).alloc (.cells #[.slice none 0 0, .int .i64 0, .bool false] 143) = W1 := ⟨_, rfl⟩
  rw [hW1] at hop HB hz hsz
  have h1 := h.on HB
  have HO := Lib.hid h
  have HCP := Lib.hid hcp
  clear hcp
  have HB1 := Lib.hid HB
  have HZ := Lib.hid hz
  have HN := Lib.hid (And.intro hsz ho)
  obtain ⟨_, _, _, k3, k4, k5, k6, _⟩ := hop.cell
  rw [hk] at k3
  clear HB h hop ho hz hsz hk
  by_cases hl : L.length = 1
  · obtain ⟨x, rfl⟩ := List.length_eq_one_iff.1 hl
    obtain ⟨g, p, cap, rfl, hx⟩ := h1.one
    clear hl h1
    by_cases m1 : o.meth = 1
    · rw [m1] at k4
      have HA := Lib.hid (show ctrC o [x] = ([x], x, true) by simp [ctrC, m1])
      clear m1
      have HBR := HB1
      obtain ⟨W3, hst, hd⟩ := done_store (wr := W1) (b := w.heap.size + 1) HZ.out (.slice (some ⟨g, p, none⟩) 1 cap) (x) true rfl
      have r0 := hd.c0
      have r1 := hd.c1
      have r2 := hd.c2
      have HD := Lib.hid hd
      have HB3 := Lib.hid ((HB1.out).trans (hd.below.mono (Nat.le_succ _)))
      clear hd
      go_enter Try.func95, Try.ntmps95
      go_wp2_with fail
      refine bodyPost_ret (v := .agg #[.slice (some ⟨g, p, none⟩) 1 cap, .int .i64 x, .bool true]) (by simp [results, Try.results95, go_sem, r0, r1, r2]) rfl ?_
      exact RNum.eq HA.out (.inl ⟨rfl, rfl⟩) HB3.out
    · have q1 : (o.meth == 1) = false := beq_eq_false_iff_ne.2 m1
      by_cases m4 : o.meth = 4
      · rw [m4] at k4
        have HA := Lib.hid (show ctrC o [x] = ([wrapI (x + 1)], 0, true) by simp [ctrC, m4])
        have hw : IntKind.i64.wrap (x + 1) = wrapI (x + 1) := rfl
        have hz := wrapI_in (x + 1)
        have HZW := Lib.hid hz
        obtain ⟨y, hy⟩ : ∃ y, wrapI (x + 1) = y := ⟨_, rfl⟩
        rw [hy] at HA hw HZW
        clear m4 hz hy
        go_enter Try.func95, Try.ntmps95
        go_wp2_with fail
        go_quiet (fail)
        have HBR := Lib.hid (HB1.out.on (below_drewN W1 nq))
        obtain ⟨W3, hst, hd⟩ := done_store (wr := (W1.drewN nq).alloc (.cells #[.int .i64 (y)] 3)) (b := w.heap.size + 1) ((show DoneZ (W1.drewN nq) (w.heap.size + 1) from HZ.out).on (by go_grown)) (.slice (some ⟨W1.heap.size, 0, none⟩) 1 1) (0) true rfl
        have r0 := hd.c0
        have r1 := hd.c1
        have r2 := hd.c2
        have HD := Lib.hid hd
        have HB3 := Lib.hid ((HBR.out.on (by go_grown)).trans (hd.below.mono (Nat.le_succ _)))
        clear hd
        go_wp2_with fail
        refine bodyPost_ret (v := .agg #[.slice (some ⟨W1.heap.size, 0, none⟩) 1 1, .int .i64 0, .bool true]) (by simp [results, Try.results95, go_sem, r0, r1, r2]) rfl ?_
        exact RNum.eq HA.out (.inr ((HD.out.own (n₀ := w.heap.size + 2) (by omega) (OwnI.fresh (W1.drewN nq) (by have := HN.out.1; show w.heap.size + 2 ≤ W1.heap.size; omega) _ HZW.out)).base (by omega))) HB3.out
      · have q4 : (o.meth == 4) = false := beq_eq_false_iff_ne.2 m4
        by_cases m5 : o.meth = 5
        · rw [m5] at k4
          have HA := Lib.hid (show ctrC o [x] = ([wrapI (x - 1)], 0, true) by simp [ctrC, m5])
          have hw : IntKind.i64.wrap (x - 1) = wrapI (x - 1) := rfl
          have hz := wrapI_in (x - 1)
          have HZW := Lib.hid hz
          obtain ⟨y, hy⟩ : ∃ y, wrapI (x - 1) = y := ⟨_, rfl⟩
          rw [hy] at HA hw HZW
          clear m5 hz hy
          go_enter Try.func95, Try.ntmps95
          go_wp2_with fail
          go_quiet (fail)
          have HBR := Lib.hid (HB1.out.on (below_drewN W1 nq))
          obtain ⟨W3, hst, hd⟩ := done_store (wr := (W1.drewN nq).alloc (.cells #[.int .i64 (y)] 3)) (b := w.heap.size + 1) ((show DoneZ (W1.drewN nq) (w.heap.size + 1) from HZ.out).on (by go_grown)) (.slice (some ⟨W1.heap.size, 0, none⟩) 1 1) (0) true rfl
          have r0 := hd.c0
          have r1 := hd.c1
          have r2 := hd.c2
          have HD := Lib.hid hd
          have HB3 := Lib.hid ((HBR.out.on (by go_grown)).trans (hd.below.mono (Nat.le_succ _)))
          clear hd
          go_wp2_with fail
          refine bodyPost_ret (v := .agg #[.slice (some ⟨W1.heap.size, 0, none⟩) 1 1, .int .i64 0, .bool true]) (by simp [results, Try.results95, go_sem, r0, r1, r2]) rfl ?_
          exact RNum.eq HA.out (.inr ((HD.out.own (n₀ := w.heap.size + 2) (by omega) (OwnI.fresh (W1.drewN nq) (by have := HN.out.1; show w.heap.size + 2 ≤ W1.heap.size; omega) _ HZW.out)).base (by omega))) HB3.out
        · have q5 : (o.meth == 5) = false := beq_eq_false_iff_ne.2 m5
          have HA := Lib.hid (show ctrC o [x] = ([], 0, false) by simp [ctrC, noA, m1, m4, m5])
          clear m1 m4 m5
          go_enter Try.func95, Try.ntmps95
          go_wp2_with fail
          go_quiet (fail)
          have HBR := Lib.hid (HB1.out.on (below_drewN W1 nq))
          obtain ⟨W3, hst, hd⟩ := done_store (wr := (W1.drewN nq)) (b := w.heap.size + 1) (show DoneZ (W1.drewN nq) (w.heap.size + 1) from HZ.out) (.slice none 0 0) (0) false rfl
          have r0 := hd.c0
          have r1 := hd.c1
          have r2 := hd.c2
          have HD := Lib.hid hd
          have HB3 := Lib.hid ((HBR.out).trans (hd.below.mono (Nat.le_succ _)))
          clear hd
          go_wp2_with fail
          refine bodyPost_ret (v := .agg #[.slice none 0 0, .int .i64 0, .bool false]) (by simp [results, Try.results95, go_sem, r0, r1, r2]) rfl ?_
          exact RNum.eq HA.out (.inr (OwnI.nil _ _ none)) HB3.out
  · have hq : ((L.length : Int) != 1) = true := bne_iff_ne.2 (by omega)
    have HA := Lib.hid (show ctrC o L = ([], 0, false) by
      match L, hl with
      | [], _ => rfl
      | [x], hl => exact absurd rfl hl
      | _ :: _ :: _, _ => rfl)
    obtain ⟨ao, cap, rfl, _⟩ := h1.parts
    clear hl h1
    obtain ⟨W3, hst, hd⟩ := done_store (wr := W1) (b := w.heap.size + 1) HZ.out (.slice none 0 0) (0) false rfl
    have r0 := hd.c0
    have r1 := hd.c1
    have r2 := hd.c2
    have HD := Lib.hid hd
    have HB3 := Lib.hid ((HB1.out).trans (hd.below.mono (Nat.le_succ _)))
    clear hd
    go_enter Try.func95, Try.ntmps95
    go_wp2_with fail
    refine bodyPost_ret (v := .agg #[.slice none 0 0, .int .i64 0, .bool false]) (by simp [results, Try.results95, go_sem, r0, r1, r2]) rfl ?_
    exact RNum.eq HA.out (.inr (OwnI.nil _ _ none)) HB3.out
end Go.Proofs.Ytppjmmdiglnkfaa
namespace Go.Proofs.Ytppjmmdiglnkfaa
set_option maxRecDepth 100000
open Go.ChangeShapes Go.WideShapes Go.ChangeAt Go.RowKit Go.PlainAid Go.Deep

attribute [local go_sem ↓ high] store_d load_op
/-- What the reference's Do has in memory. -/
structure StR (w W : World) (o : OpV) : Prop where
  hb : Below w.heap.size w W
  hp : OpAt W w.heap.size o
  hz : DoneZ W (w.heap.size + 1)
  hs : w.heap.size + 2 ≤ W.heap.size
theorem StR.start (w : World) (o : OpV) : StR w ((w.alloc (.cells #[Value.int .i64 o.id, Value.int .i64 o.proc, Value.int .i64 o.obj, Value.int .i64 o.kind, Value.int .i64 o.meth, Value.int .i64 o.arg, Value.int .i64 o.sec, Value.bool o.done, Value.int .i64 o.res, Value.int .i64 o.inv, Value.int .i64 o.ret] 43)).alloc (.cells #[.slice none 0 0, .int .i64 0, .bool false] 143)) o :=
  ⟨by go_grown, (OpAt.box w o).on (by go_grown), ⟨_, by have := heap_alloc_new (w.alloc (.cells #[Value.int .i64 o.id, Value.int .i64 o.proc, Value.int .i64 o.obj, Value.int .i64 o.kind, Value.int .i64 o.meth, Value.int .i64 o.arg, Value.int .i64 o.sec, Value.bool o.done, Value.int .i64 o.res, Value.int .i64 o.inv, Value.int .i64 o.ret] 43)) (.cells #[.slice none 0 0, .int .i64 0, .bool false] 143); rw [World.size_alloc] at this; exact this, rfl⟩, by rw [World.size_alloc, World.size_alloc]; exact Nat.le_refl _⟩
theorem StR.on {w W W' : World} {o : OpV} (h : StR w W o) (hb : Below W.heap.size W W') : StR w W' o := ⟨h.hb.on hb, h.hp.on hb, h.hz.on hb, Nat.le_trans h.hs hb.size⟩
theorem StR.below2 {w W W' : World} {o : OpV} (h : StR w W o) (hb : Below (w.heap.size + 2) W W') : StR w W' o := by
  refine ⟨h.hb.trans (hb.mono (by omega)), (hb.block _ (by omega)).trans h.hp, ?_, Nat.le_trans h.hs hb.size⟩
  obtain ⟨c, hc, hs⟩ := h.hz
  exact ⟨c, (hb.block _ (by omega)).trans hc, hs⟩
/-- What a last store leaves. -/
theorem rdone_end {w W W3 : World} {o : OpV} {A : Ans} {L : List Int} {n : Int} {b : Bool} (hA : A = (L, n, b)) (hS : StR w W o) {v' : Value} (hd : DoneS W W3 (w.heap.size + 1) v' n b)
    {v : Value} (ho : (IntsOf w v' L ∧ CapOk v' ∧ SameB v v') ∨ OwnI (w.heap.size + 2) W v' L) : RDone A w v (.returned (.agg #[v', .int .i64 n, .bool b])) W3 := by
  have hb : Below w.heap.size w W3 := hS.hb.trans (hd.below.mono (Nat.le_succ _))
  rcases ho with h | h
  · exact RDone.eq hA (h.1.on hb) h.2.1 (.inl h.2.2) hb
  · exact RDone.eq hA (hd.own (by omega) h).reads h.capOk (.inr ((hd.own (by omega) h).base (by omega))) hb
theorem IntsOf.tail {w : World} {v : Value} {x : Int} {L : List Int} (h : IntsOf w v (x :: L)) (hcp : CapOk v) : ∃ g o cap, v = .slice (some ⟨g, o, none⟩) (L.length + 1) cap ∧ L.length + 1 ≤ cap ∧ w.cell? ⟨g, o, none⟩ = some (.int .i64 x) ∧ IntsOf w (.slice (some ⟨g, o + 1, none⟩) L.length (cap - 1)) L ∧ (cap = 1 → IntsOf w (.slice (some ⟨g, o, none⟩) L.length 0) L ∧ L.length = 0) := by
  rcases h with ⟨h0, _⟩ | ⟨b, o, cap, rfl, hlt, h0, hm, hr⟩
  · cases h0
  · have hc := (hr 0 x rfl).2
    rw [Nat.add_zero] at hc
    have hr' : ∀ (i : Nat) (y : Int), L[i]? = some y → (-9223372036854775808 ≤ y ∧ y ≤ 9223372036854775807) ∧ w.cell? ⟨b, o + 1 + i, none⟩ = some (.int .i64 y) := fun i y hy => by
      have := hr (i + 1) y (by simpa using hy)
      rwa [show o + (i + 1) = o + 1 + i by omega] at this
    have hl : (x :: L).length = L.length + 1 := rfl
    have hle := hcp.le
    rw [hl] at hle hm
    by_cases c : L.length = 0
    · have e := List.length_eq_zero_iff.1 c
      subst e
      exact ⟨b, o, cap, rfl, hle, hc, .inl ⟨rfl, _, _, rfl⟩, fun _ => ⟨.inl ⟨rfl, _, _, rfl⟩, rfl⟩⟩
    · exact ⟨b, o, cap, rfl, hle, hc, .inr ⟨b, o + 1, cap - 1, rfl, hlt, by omega, by omega, hr'⟩, fun h1 => absurd h1 (by omega)⟩
theorem IntsOf.front {w : World} {v : Value} {x : Int} {L : List Int} (h : IntsOf w v (L ++ [x])) (hcp : CapOk v) : ∃ g o cap, v = .slice (some ⟨g, o, none⟩) (L.length + 1) cap ∧ L.length + 1 ≤ cap ∧ w.cell? ⟨g, o + L.length, none⟩ = some (.int .i64 x) ∧ IntsOf w (.slice (some ⟨g, o, none⟩) L.length cap) L := by
  rcases h with ⟨h0, _⟩ | ⟨b, o, cap, rfl, hlt, h0, hm, hr⟩
  · simp at h0
  · have hl : (L ++ [x]).length = L.length + 1 := by simp
    have hle := hcp.le
    rw [hl] at hm h0 hle
    refine ⟨b, o, cap, by rw [hl], hle, (hr L.length x (by simp)).2, ?_⟩
    by_cases c : L.length = 0
    · exact .inl ⟨List.length_eq_zero_iff.1 c, _, _, by rw [c]⟩
    · exact .inr ⟨b, o, cap, rfl, hlt, by omega, by omega, fun i y hy => hr i y (by rw [List.getElem?_append_left (List.getElem?_eq_some_iff.1 hy).1]; exact hy)⟩
end Go.Proofs.Ytppjmmdiglnkfaa
