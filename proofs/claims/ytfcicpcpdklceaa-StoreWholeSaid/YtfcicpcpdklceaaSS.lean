/- The law's all. -/
import Derived.Test.YtfcicpcpdklceaaSR
namespace Go.Proofs.Ytfcicpcpdklceaa
set_option maxRecDepth 100000
open Go.ChangeShapes Go.WideShapes Go.ChangeAt Go.RowKit Go.PlainAid Go.ChangeMaps Go.MapKept
open Go.Sort (grow)
attribute [local go_sem ↓ high] app_text

theorem Below.keeps {own : Nat → Prop} {B : Nat} {w w' : World} (h : Below B w w') (hs : ∀ i, B ≤ i → own i) : Keeps own w w' := ⟨h.os, h.tape, h.output, h.size, fun k _ ho => h.block k (by rcases Nat.lt_or_ge k B with c | c; exact c; exact absurd (hs k c) ho)⟩
/-- The store behind calls that wrote its own block alone, and a new block beside it. -/
theorem OwnL.keepAdd {w0 w wr : World} {p q : Nat} {d : D} {o : Obj} {L N : List (Nat × Obj)} (H : OwnL w0 p d ((q, o) :: L) w) (h0 : w0.heap.size ≤ q) (hne : ∀ x ∈ L, x.1 ≠ q) (K : Keeps (fun j => j = q) w wr) (hq : wr.heap[q]? = some o) (hN : ∀ x ∈ N, w.heap.size ≤ x.1 ∧ wr.heap[x.1]? = some x.2) :
    OwnL w0 p d ((q, o) :: (N ++ L)) wr := by
  obtain ⟨F, hp, hd, hb, hown, hL⟩ := H
  have hnq : ¬ F.own q := (hL (q, o) List.mem_cons_self).1
  refine ⟨F, hp, DiskAt.kept hd K (fun i hi hf => by subst hi; exact hnq hf), hb.trans (K.below (fun i hi => by subst hi; exact h0) hb.size), hown, fun x hx => ?_⟩
  rcases List.mem_cons.1 hx with rfl | hx
  · exact ⟨hnq, hq⟩
  · rcases List.mem_append.1 hx with hx | hx
    · obtain ⟨n1, n2⟩ := hN x hx
      exact ⟨fun c => Nat.lt_irrefl _ (Nat.lt_of_lt_of_le (DiskAt.own_lt hd c) n1), n2⟩
    · have hx' := hL x (List.mem_cons_of_mem _ hx)
      exact ⟨hx'.1, (K.block x.1 (heap_lt hx'.2) (hne x hx)).trans hx'.2⟩
theorem StT.keepAdd {w0 w wr : World} {p q bm c : Nat} {d : D} {h : Hd} {T : Int → Option ByteArray} {dead : Bool} {R N : List (Nat × Obj)} (H : StT w0 p q bm c d h T dead R w) (K : Keeps (fun j => j = q) w wr) (hq : wr.heap[q]? = some (storeO p bm h dead)) (hN : ∀ x ∈ N, w.heap.size ≤ x.1 ∧ wr.heap[x.1]? = some x.2) :
    StT w0 p q bm c d h T dead (N ++ R) wr := by
  have hqq := heap_lt H.at
  obtain ⟨⟨es, clock, hT, hS⟩, h1, h2⟩ := H
  have hbm := heap_lt (hS.mem (x := (bm, .map es clock)) List.mem_cons_self)
  have h3 := hS.own.keepAdd hS.lo hS.ne K hq hN
  refine ⟨⟨es, clock, hT, ⟨h3.sub _ fun x hx => ?_, hS.lo, fun x hx => ?_⟩⟩, h1, fun x hx => ?_⟩
  · simp only [List.mem_cons, List.mem_append] at hx ⊢
    rcases hx with h | h | h | h <;> simp [h]
  · rcases List.mem_cons.1 hx with rfl | hx
    · exact hS.ne _ List.mem_cons_self
    · rcases List.mem_append.1 hx with hx | hx
      · have := (hN x hx).1; omega
      · exact hS.ne x (List.mem_cons_of_mem _ hx)
  · rcases List.mem_append.1 hx with hx | hx
    · have := (hN x hx).1
      show x.1 ≠ bm
      have hbm' : bm < w.heap.size := hbm
      omega
    · exact h2 x hx
theorem StT.keep {w0 w wr : World} {p q bm c : Nat} {d : D} {h : Hd} {T : Int → Option ByteArray} {dead : Bool} {R : List (Nat × Obj)} (H : StT w0 p q bm c d h T dead R w) (K : Keeps (fun j => j = q) w wr) (hq : wr.heap[q]? = some (storeO p bm h dead)) : StT w0 p q bm c d h T dead R wr :=
  H.keepAdd (N := []) K hq (fun x hx => by cases hx)
/-- All pages. -/
def pages (d : D) (h : Hd) (T : Int → Option ByteArray) (n : Nat) : List ByteArray := (List.range n).map fun (i : Nat) => pageS d h T (i : Int)
theorem pages_length (d : D) (h : Hd) (T : Int → Option ByteArray) (n : Nat) : (pages d h T n).length = n := by simp [pages]
theorem pages_snoc (d : D) (h : Hd) (T : Int → Option ByteArray) (n : Nat) : pages d h T (n + 1) = pages d h T n ++ [pageS d h T (n : Int)] := by simp [pages, List.range_succ]
/-- A slice of texts whose block is known. -/
def TextsR (v : Value) (R : List (Nat × Obj)) (l : List ByteArray) : Prop := ∃ g cap cur, v = .slice (some ⟨g, 0, none⟩) l.length cap ∧ (g, Obj.cells cur 9 (0, 0)) ∈ R ∧ cur.toList.take l.length = l.map Value.string
set_option maxHeartbeats 1000000 in
theorem all_any {w0 w : World} {p q bm c : Nat} {d : D} {h : Hd} {T : Int → Option ByteArray} {R : List (Nat × Obj)} (H : StT w0 p q bm c d h T false R w) (hw : h.Wf) (hp : 1 ≤ h.pages) (hd : d.dark = false) (hn : 2 + h.room + h.pages ≤ d.n) :
    Calls Try.prog 11 #[.pointer (some ⟨q, 0, none⟩)] w fun e w' => ∃ v x, e = .returned v ∧ TextsR v [x] (pages d h T h.pages) ∧ w.heap.size ≤ x.1 ∧ StT w0 p q bm c d h T false (x :: R) w' ∧ Keeps (fun j => j = q) w w' := by
  have hpg := hw.pages
  have hqs := heap_lt H.at
  have HH := Lib.hid H
  have HW := Lib.hid hw
  have HK0 := Lib.hid (Keeps.refl (fun j => j = q) w)
  have HQ0 := Lib.hid H.at
  have HR0 : Hid (w.ownsRow w.heap.size 9 1 (.slice none 0 0) 0 ((pages d h T 0).map Value.string)) := Lib.hid (World.ownsRow_nil _ _ _ _)
  clear H hw
  go_enter Try.func11, Try.ntmps11
  go_wp2_with fail
  go_loopw [3, 4] (fun v i wr => ∃ k : Nat, k ≤ h.pages ∧ i = .int .i64 k ∧ Keeps (fun j => j = q) w wr ∧ wr.heap[q]? = some (storeO p bm h false) ∧ wr.ownsRow w.heap.size 9 1 v k ((pages d h T k).map Value.string)) (fun _ i _ => h.pages - (intOf i).toNat)
  case atStart => exact ⟨0, Nat.zero_le _, rfl, HK0.out, HQ0.out, HR0.out⟩
  case round =>
    clear HK0 HQ0 HR0
    obtain ⟨k, hk, rfl, hK, hQ, hrow⟩ := hrel
    have HK := Lib.hid hK
    have HQ := Lib.hid hQ
    have HR := Lib.hid hrow
    clear hK hQ hrow
    have HL := Lib.hid (slen_any wr q p bm h false HQ.out)
    by_cases hlt : k < h.pages
    · have HRd := Lib.hid (sread_any (HH.out.keep HK.out HQ.out) (k : Int) (by omega) (by omega) HW.out hd hn)
      go_wp2_with fail
      refine HL.out.mono ?_
      rintro e _ ⟨rfl, rfl⟩
      go_wp2_with fail
      refine HRd.out.mono ?_
      rintro e w2 ⟨rfl, H2, K2⟩
      have hrow2 : w2.ownsRow w.heap.size 9 1 u3 k ((pages d h T k).map Value.string) := HR.out.kept (row := some q) (Keeps.grownBy (K2.mono fun i hi => .inl (by rw [hi]))) (.inr (by intro c; have := (HR.out.lt _ c).1; omega))
      have hlen : ((pages d h T k).map Value.string).length = k := by rw [List.length_map, pages_length]
      have hK2 := HK.out.on K2
      obtain ⟨g, cap, w3, p1, p2, p3⟩ := row_push (xs := (pages d h T k).map Value.string) (by rw [hlen]; exact hrow2) hK2.size (by rw [hlen]; omega) (pageS d h T (k : Int)) k hlen
      have hq3 : w3.heap[q]? = some (storeO p bm h false) := (p3.block q hqs).trans H2.at
      have hK3 : Keeps (fun j => j = q) w w3 := hK2.trans (Below.keeps (own := fun j => w.heap.size ≤ j) p3 (fun i hi => hi)) (fun i hi => .inr hi)
      have e4 : (pages d h T k).map Value.string ++ [Value.string (pageS d h T (k : Int))] = (pages d h T (k + 1)).map Value.string := by rw [pages_snoc]; simp
      rw [e4] at p2
      rw [List.length_map, pages_length] at p2
      have HF := Lib.hid (And.intro hK3 (And.intro hq3 p2))
      clear hrow2 hlen hK2 p2 p3 hq3 hK3 e4 H2 K2 HL HRd
      go_wp2
      go_roundw
      case rel => exact ⟨k + 1, by omega, by go_num, HF.out.1, HF.out.2.1, HF.out.2.2⟩
      case measure => simp [intOf]; omega
    · obtain rfl : k = h.pages := by omega
      go_wp2_with fail
      refine HL.out.mono ?_
      rintro e _ ⟨rfl, rfl⟩
      obtain ⟨g, cap, cur, hv, hg, hgb, hcur⟩ := row_open HR.out hp
      have HF := Lib.hid (HH.out.keepAdd (N := [(g, Obj.cells cur 9 (0, 0))]) HK.out HQ.out (fun x hx => by rw [List.mem_singleton] at hx; subst hx; exact ⟨hg, hgb⟩))
      have HT : Hid (TextsR u3 [(g, Obj.cells cur 9 (0, 0))] (pages d h T h.pages)) := Lib.hid ⟨g, cap, cur, by rw [pages_length]; exact hv, List.mem_singleton.2 rfl, by rw [pages_length]; exact hcur⟩
      have HG := Lib.hid hg
      clear HL hv hg hgb hcur
      go_wp2
      go_returns
      exact ⟨_, _, rfl, HT.out, HG.out, HF.out, HK.out⟩
end Go.Proofs.Ytfcicpcpdklceaa
