/- Package store: Write, Back. -/
import Derived.Test.YtfcicpcpdklceaaSG
namespace Go.Proofs.Ytfcicpcpdklceaa
set_option maxRecDepth 100000
open Go.ChangeShapes Go.WideShapes Go.ChangeAt Go.RowKit Go.PlainAid Go.ChangeMaps Go.MapKept
open Go.Sort (grow)
attribute [local go_sem ↓ high] loadS_page storeS_page

theorem loadS_pg {w : World} {g o : Nat} {s : ByteArray} (h : w.rangeAt g o (textCells 256 s)) : (loadS 83 (.pointer (some ⟨g, o, none⟩))).run Try.prog w = .ok (.agg (textCells 256 s).toArray) w :=
  loadMany_range (P := Try.prog) (t := 83) (textCells 256 s) (.array 256 5) h Try.underlying83 rfl (by rw [size_page, length_textCells])
theorem TxIs.mono {es : Array MapEntry} {clock c c' : Nat} {T : Int → Option ByteArray} (h : TxIs es clock c T) (hc : c ≤ c') : TxIs es clock c' T := ⟨h.fit, Nat.le_trans h.size hc, h.has, h.get⟩
theorem StT.mono {w0 w : World} {p q bm c c' : Nat} {d : D} {h : Hd} {T : Int → Option ByteArray} {dead : Bool} {R : List (Nat × Obj)} (H : StT w0 p q bm c d h T dead R w) (hc : c ≤ c') : StT w0 p q bm c' d h T dead R w := by
  obtain ⟨⟨es, clock, hX, hS⟩, h1, h2⟩ := H
  exact ⟨⟨es, clock, hX.mono hc, hS⟩, h1, h2⟩
/-- The map is put anew. -/
theorem StT.newMap {w0 w : World} {p q bm c' : Nat} {d : D} {h : Hd} {T' : Int → Option ByteArray} {dead : Bool} {R : List (Nat × Obj)} {es es' : Array MapEntry} {clock clock' : Nat}
    (hS : StR w0 p q bm d h dead ((bm, .map es clock) :: R) w) (h1 : w0.heap.size ≤ bm) (h2 : ∀ x ∈ R, x.1 ≠ bm) (hX : TxIs es' clock' c' T') : StT w0 p q bm c' d h T' dead R (setBlock w bm (.map es' clock')) := by
  have hne : bm ≠ q := hS.ne _ List.mem_cons_self
  refine ⟨⟨es', clock', hX, ⟨hS.own.block (es := es) (clock := clock) (b := bm) (by simp) h1 _ _ (fun x hx => ?_), hS.lo, fun x hx => ?_⟩⟩, h1, h2⟩
  · simp only [List.mem_cons] at hx ⊢
    rcases hx with rfl | rfl | hx
    · exact .inr ⟨.inl rfl, fun e => hne e.symm⟩
    · exact .inl rfl
    · exact .inr ⟨.inr (.inr hx), h2 x hx⟩
  · rcases List.mem_cons.1 hx with rfl | hx
    · exact hne
    · exact hS.ne x (List.mem_cons_of_mem _ hx)
theorem keeps_block {w w' : World} {b : Nat} {es : Array MapEntry} {clock : Nat} (h : Keeps (fun j => j = b) w w') (hb : w'.heap[b]? = some (.map es clock)) (o : Obj) : Keeps (fun j => j = b) w (setBlock w' b o) := by
  refine ⟨h.os, h.tape, h.output, by have := h.size; simp [setBlock]; omega, fun k hk ho => ?_⟩
  exact (heap_setBlock_other hb _ ho).trans (h.block k hk ho)
/-- What Write answers, and the transaction behind it. -/
def swriteE (h : Hd) (k : Int) (s : ByteArray) : Int := if k < 0 ∨ h.pages ≤ k then 10 else if 256 < s.size then 21 else 0
def swriteT (h : Hd) (T : Int → Option ByteArray) (k : Int) (s : ByteArray) : Int → Option ByteArray := if k < 0 ∨ h.pages ≤ k ∨ 256 < s.size then T else put T k (filled s)
theorem swrite_no (w : World) (v : Value) (k : Int) (s : ByteArray) (h : NoStore w v) :
    Calls Try.prog 22 #[v, .int .i64 k, .string s] w fun e w' => e = .returned (.int .i64 3) ∧ w = w' := by
  go_enter Try.func22, Try.ntmps22
  go_wp2_with fail
  refine (sreach_no _ v k h).mono ?_
  rintro e _ ⟨rfl, rfl⟩
  go_wp2
  go_returns
  exact ⟨rfl, rfl⟩
set_option maxHeartbeats 1000000 in
theorem swrite_any {w0 w : World} {p q bm c : Nat} {d : D} {h : Hd} {T : Int → Option ByteArray} {R : List (Nat × Obj)} (H : StT w0 p q bm c d h T false R w) (k : Int) (s : ByteArray) (h0 : -9223372036854775808 ≤ k) (h1 : k ≤ 9223372036854775807) (hs : s.size ≤ maxLen) (hc : c < 1000000) :
    Calls Try.prog 22 #[.pointer (some ⟨q, 0, none⟩), .int .i64 k, .string s] w fun e w' => e = .returned (.int .i64 (swriteE h k s)) ∧ StT w0 p q bm (c + 1) d h (swriteT h T k s) false R w' ∧ Keeps (fun j => j = bm) w w' := by
  unfold maxLen at hs
  have hR := sreach_any w q p bm h false k H.at h0 h1
  unfold swriteE swriteT
  by_cases hk : k < 0 ∨ h.pages ≤ k
  · have hr0 : sreachE h false k = 10 := by unfold sreachE; rw [if_neg (by decide), if_pos hk]
    rw [hr0] at hR
    rw [if_pos hk, if_pos (by omega)]
    clear hr0
    go_enter Try.func22, Try.ntmps22
    go_wp2_with fail
    refine hR.mono ?_
    rintro e _ ⟨rfl, rfl⟩
    go_wp2
    go_returns
    exact ⟨rfl, H.mono (Nat.le_succ c), Keeps.refl _ _⟩
  · have hr0 : sreachE h false k = 0 := by unfold sreachE; rw [if_neg (by decide), if_neg hk]
    rw [hr0] at hR
    rw [if_neg hk]
    by_cases hb : 256 < s.size
    · have hb1 : decide ((256 : Int) < (s.size : Int)) = true := by simp; omega
      rw [if_pos hb, if_pos (by omega)]
      clear hr0
      go_enter Try.func22, Try.ntmps22
      go_wp2_with fail
      refine hR.mono ?_
      rintro e _ ⟨rfl, rfl⟩
      go_wp2
      go_returns
      exact ⟨rfl, H.mono (Nat.le_succ c), Keeps.refl _ _⟩
    · have hb1 : decide ((256 : Int) < (s.size : Int)) = false := by simp; omega
      rw [if_neg hb, if_neg (by omega)]
      have hzero := zero_page
      have hcopy := copy_fill (P := Try.prog) w 78 9 3 5 83 s Try.underlying78 (by kernel_rfl) (by omega)
      have hbl : Below w.heap.size w (w.alloc (.cells (textCells 256 s).toArray 83)) := by go_grown
      have HB := Lib.hid hbl
      have HS0 := Lib.hid H
      have HR := Lib.hid hR
      have hnew := heap_alloc_new w (.cells (textCells 256 s).toArray 83)
      clear hr0 hR H hbl
      go_enter Try.func22, Try.ntmps22
      go_wp2_with fail
      refine HR.out.mono ?_
      rintro e _ ⟨rfl, rfl⟩
      go_wp2_with fail
      have HS1 := Lib.hid (HS0.out.on HB.out)
      clear hcopy hzero HS0 HR
      generalize w.alloc (.cells (textCells 256 s).toArray 83) = W1 at *
      obtain ⟨c0, c1, c2, c3, c4, c5, c6⟩ := store_cells HS1.out.at
      have hra := rangeAt_whole hnew
      have ld1 := loadS_pg hra
      have ld2 := loadS_pg (w := W1.drew) hra
      have hbd : Below W1.heap.size W1 W1.drew := by go_grown
      obtain ⟨⟨es, clock, hX, hS⟩, q1, q2⟩ := HS1.out.on hbd
      have hbm : W1.drew.heap[bm]? = some (.map es clock) := hS.mem (x := (bm, .map es clock)) List.mem_cons_self
      obtain ⟨es', clock', hrun, hX'⟩ := hX.put hbm hc k h0 h1 (filled s) (filled_size s)
      unfold pgV at hrun
      rw [textCells_filled] at hrun
      have HF := Lib.hid (StT.newMap hS q1 q2 hX')
      have HK := Lib.hid (keeps_block (es := es) (clock := clock) (Keeps.of_below (own := fun j => j = bm) (HB.out.on hbd)) hbm (.map es' clock'))
      clear hnew hra hX hS q1 q2 hbm hX' hbd HS1 HB
      generalize (textCells 256 s).toArray = cs at *
      generalize setBlock W1.drew bm (.map es' clock') = W3 at *
      go_still_tail 6, (by kernel_rfl)
      change wpList _ _ _ _ _ W1.drew
      generalize W1.drew = W2 at *
      go_wp2
      go_returns
      exact ⟨rfl, HF.out, HK.out⟩
theorem sback_no (w : World) (v : Value) (h : NoStore w v) :
    Calls Try.prog 20 #[v] w fun e w' => e = .returned (.tuple #[]) ∧ w = w' := by
  rcases h with rfl | ⟨q, rfl, hq⟩
  · go_enter Try.func20, Try.ntmps20
    go_wp2
    go_returns
    exact ⟨rfl, rfl⟩
  · obtain ⟨c0, c1, c2, c3, c4, c5, c6⟩ := blank_cells hq
    clear hq
    have hcl : ∀ ty w, (Builtin.clear_ #[56] ty #[.map none]).run Try.prog w = .ok (.tuple #[]) w := fun ty w => by
      simp [Builtin.clear_, run_underlying Try.underlying56]
    go_enter Try.func20, Try.ntmps20
    go_wp2
    go_returns
    exact ⟨rfl, rfl⟩
set_option maxHeartbeats 1000000 in
theorem sback_any {w0 w : World} {p q bm c : Nat} {d : D} {h : Hd} {T : Int → Option ByteArray} {dead : Bool} {R : List (Nat × Obj)} (H : StT w0 p q bm c d h T dead R w) :
    Calls Try.prog 20 #[.pointer (some ⟨q, 0, none⟩)] w fun e w' => e = .returned (.tuple #[]) ∧ StT w0 p q bm c d h noPages dead R w' ∧ Keeps (fun j => j = bm) w w' := by
  obtain ⟨c0, c1, c2, c3, c4, c5, c6⟩ := store_cells H.at
  obtain ⟨⟨es, clock, hX, hS⟩, q1, q2⟩ := H
  have hbm : w.heap[bm]? = some (.map es clock) := hS.mem (x := (bm, .map es clock)) List.mem_cons_self
  have hcl := fun ty => clear_map hbm ty
  have HF := Lib.hid (StT.newMap hS q1 q2 (tx_empty clock c))
  have HK := Lib.hid (keeps_block (es := es) (clock := clock) (Keeps.refl (fun j => j = bm) w) hbm (.map #[] clock))
  clear hX hS q1 q2 hbm
  go_enter Try.func20, Try.ntmps20
  go_wp2
  go_returns
  exact ⟨rfl, HF.out, HK.out⟩
end Go.Proofs.Ytfcicpcpdklceaa
