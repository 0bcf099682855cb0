/- The program's Add of layer 10: it answers by 'addP', or by its error. Conditions: a document as it lies in the world; rows of at most 2^47 bytes. -/
import Derived.Test.YtkloahpkjbohoaaDocCP
import Derived.Test.YtkloahpkjbohoaaDocS8
import Derived.Test.YtkloahpkjbohoaaDocJ
import Derived.Deep.RegionHeld3
namespace Go.Proofs.Ytkloahpkjbohoaa
open Go.RowKit

/-- What Add is asked for is in order. -/
def AddOk (name text : ByteArray) : Prop := (noName name = true ∧ text.size ≤ 4000) ∨ (noName name = false ∧ nameOk name = true ∧ noName text = true)
theorem noName_size {n : ByteArray} (h : noName n = true) : n.size = 0 := beq_iff_eq.1 h
theorem noName_size' {n : ByteArray} (h : noName n = false) : 0 < n.size := by
  unfold noName at h
  have := beq_eq_false_iff_ne.1 h
  omega
theorem noName_nil {n : ByteArray} (h : noName n = true) : n.toList = [] := by
  have := noName_list n
  rw [h] at this
  exact beq_iff_eq.1 this
theorem nm_of {n : ByteArray} (h : nameOk n = true) : n.size ≤ 20 := by
  rcases Nat.lt_or_ge 20 n.size with q | q
  · rw [name_short (by omega)] at h; cases h
  · exact q
theorem add_alone {name text : ByteArray} (h : AddOk name text) : aloneB (newN name text) = true := by
  rcases h with ⟨h1, h2⟩ | ⟨h1, h2, h3⟩
  · rw [alone_text (noName_size h1)]
    show (([] : List (ByteArray × ByteArray)).isEmpty && (([] : List Int).isEmpty && decide (text.size ≤ 4000))) = true
    rw [decide_eq_true h2]; rfl
  · have := noName_size' h1
    rw [alone_el (by show ¬ name.size = 0; omega)]
    show (nameOk name && (text.size == 0 && (decide (([] : List (ByteArray × ByteArray)).length ≤ 40) && _))) = true
    rw [h2, noName_size h3]; rfl
theorem right_addOk {l : List Nd} {name text : ByteArray} (h : Right l) (hl : l.length < 400) (ha : AddOk name text) : Right (addP l name text) := right_add h hl (add_alone ha)

theorem keep5 {W W' : World} {n : Nat} {a b c d e : Value} (h : W.cell? ⟨n, 0, none⟩ = some a ∧ W.cell? ⟨n, 1, none⟩ = some b ∧ W.cell? ⟨n, 2, none⟩ = some c ∧ W.cell? ⟨n, 3, none⟩ = some d ∧ W.cell? ⟨n, 4, none⟩ = some e) (hb : Below W.heap.size W W') : W'.cell? ⟨n, 0, none⟩ = some a ∧ W'.cell? ⟨n, 1, none⟩ = some b ∧ W'.cell? ⟨n, 2, none⟩ = some c ∧ W'.cell? ⟨n, 3, none⟩ = some d ∧ W'.cell? ⟨n, 4, none⟩ = some e :=
  ⟨cell_below h.1 hb, cell_below h.2.1 hb, cell_below h.2.2.1 hb, cell_below h.2.2.2.1 hb, cell_below h.2.2.2.2 hb⟩
theorem keep5g {W W' : World} {n : Nat} {g : Option Nat} {a b c d e : Value} (h : W.cell? ⟨n, 0, none⟩ = some a ∧ W.cell? ⟨n, 1, none⟩ = some b ∧ W.cell? ⟨n, 2, none⟩ = some c ∧ W.cell? ⟨n, 3, none⟩ = some d ∧ W.cell? ⟨n, 4, none⟩ = some e) (hb : W.grownBy W' g) (hn : ∀ k, g = some k → n < k) : W'.cell? ⟨n, 0, none⟩ = some a ∧ W'.cell? ⟨n, 1, none⟩ = some b ∧ W'.cell? ⟨n, 2, none⟩ = some c ∧ W'.cell? ⟨n, 3, none⟩ = some d ∧ W'.cell? ⟨n, 4, none⟩ = some e := by
  have hc := Chg.of_grown hb
  have hm : n ∉ g.toList := fun q => by have := hn n (opt_mem.1 q); omega
  exact ⟨hc.cell h.1 hm, hc.cell h.2.1 hm, hc.cell h.2.2.1 hm, hc.cell h.2.2.2.1 hm, hc.cell h.2.2.2.2 hm⟩
/-- A node behind all others: the row grown, and it is a document. -/
theorem pushed {B : Nat} {w0 w1 w2 : World} {v v' : Value} {L : List NdV} {l : List Nd} {name text : ByteArray} (h : OwnD B w0 v L) (hl : ndsOf L = l) (hc : Chg v.ownBlock.toList w0 w1) (hd : Chg v.ownBlock.toList w1 w2) (hrow : w2.ownsRow B 45 5 v' (L.length + 1) (cellsV L ++ [.string name, .string text, .slice none 0 0, .int .i64 (-1), .slice none 0 0]))
    (hv : v'.ownBlock = v.ownBlock ∨ ∀ k, v'.ownBlock = some k → w0.heap.size ≤ k) : NodesV w2 v' (addP l name text) := by
  have := OwnD.push (x := ⟨newN name text, .slice none 0 0, .slice none 0 0⟩) h (hc.trans hd) hrow (World.ownsRow_nil _ _ _ _) (World.ownsRow_nil _ _ _ _) (by simp [blks, Value.ownBlock]) (fun k hk => by simp [blks, Value.ownBlock] at hk) hv
  have := this.nodes
  unfold ndsOf at this hl
  rw [List.map_append, hl] at this
  exact this
set_option maxHeartbeats 4000000 in
set_option maxRecDepth 100000 in
theorem add_ok (v : Value) (l : List Nd) (name text : ByteArray) (w : World) (hv : NodesV w v l) (hz : DocSz l) (hs : name.size ≤ maxLen) (hR : Right l) (hl : l.length < 400) (ha : AddOk name text) :
    Calls Try.prog 13 #[v, .string name, .string text] w fun e w' => ∃ v', e = .returned (.tuple #[v', .int .i64 l.length, .int .i64 0]) ∧ NodesV w' v' (addP l name text) ∧ Below w.heap.size w w' := by
  have HR := hide (right_any v l w hv hz)
  rw [right_is.2 hR] at HR
  have HC := hide (fun W (hb : Below w.heap.size w W) => copied_any v l W (hv.below hb) hR)
  have HN := hide (fun W => isName_any name W hs)
  have n4 : name.size ≤ 4000 := by
    rcases ha with ⟨h1, _⟩ | ⟨_, h1, _⟩
    · have := noName_size h1; omega
    · have := nm_of h1; omega
  have t4 : text.size ≤ 4000 := by
    rcases ha with ⟨_, h1⟩ | ⟨_, _, h1⟩
    · exact h1
    · have := noName_size h1; omega
  have HCn := hide (fun W => clone_any name W (by omega))
  have HCt := hide (fun W => clone_any text W (by omega))
  obtain ⟨pp, cc, rfl, _⟩ := hv
  have LL : Hid (∀ L : List NdV, ndsOf L = l → L.length < 400) := fun L h => by rw [← ndsOf_len, h]; exact hl
  have i4 : ¬ (400 : Int) ≤ (l.length : Int) := by omega
  have i5 : ¬ (4000 : Int) < (text.size : Int) := by omega
  have SPL : (name.toList = [] ∧ True) ∨ (¬ name.toList = [] ∧ nameOk name = true ∧ text.toList = []) := by
    rcases ha with ⟨h1, _⟩ | ⟨h0, h1, h2⟩
    · exact .inl ⟨noName_nil h1, trivial⟩
    · exact .inr ⟨noName_false h0, h1, noName_nil h2⟩
  clear hR hz ha hs
  rcases SPL with ⟨e1, _⟩ | ⟨e1, e2, e3⟩
  · have e4 : (name.toList == []) = true := by rw [e1]; rfl
    go_enter Try.func13, Try.ntmps13
    go_wp2_with fail
    refine HR.out.mono ?_
    rintro e w1 ⟨rfl, b1⟩
    go_wp2_with fail
    refine (HCn.out _).mono ?_
    rintro e w2 ⟨rfl, b2⟩
    have B2 := hide (chain b1 b2)
    go_wp2_with fail
    refine (HCt.out _).mono ?_
    rintro e w3 ⟨rfl, b3⟩
    have B3 := hide (chain B2.out b3)
    have B4 : Hid (Below w.heap.size w (w3.alloc (.cells #[.string name, .string text, .slice none 0 0, .int .i64 (-1), .slice none 0 0] 45))) := B3.out.alloc (by have := B3.out.size; omega) _
    have N4 := hide (NB.new w3 [.string name, .string text, .slice none 0 0, .int .i64 (-1), .slice none 0 0] 45)
    clear b1 b2 b3 B2 HR HCn HCt HN
    obtain ⟨iN, hN0, hN1, hN2, hN3⟩ := info_parts infoN
    go_wp2_with fail
    generalize hw4 : w3.alloc (.cells #[.string name, .string text, .slice none 0 0, .int .i64 (-1), .slice none 0 0] 45) = w4 at *
    generalize w3.heap.size = n4 at *
    have a0 := N4.out.cell 0 rfl
    have a1 := N4.out.cell 1 rfl
    have a2 := N4.out.cell 2 rfl
    have a3 := N4.out.cell 3 rfl
    have a4 := N4.out.cell 4 rfl
    clear hw4 B3
    go_region_held3 (fun w' => w'.cell? ⟨n4, 0, none⟩ = some (.string name) ∧ w'.cell? ⟨n4, 1, none⟩ = some (.string text) ∧ w'.cell? ⟨n4, 2, none⟩ = some (.slice none 0 0) ∧ w'.cell? ⟨n4, 3, none⟩ = some (.int .i64 (-1)) ∧ w'.cell? ⟨n4, 4, none⟩ = some (.slice none 0 0))
      (first | exact keep5 (by assumption) b5 | exact keep5g (by assumption) gr6 n5 | go_keep)
      (first
        | (refine step_append_raw (by rfl) _ _ _ (by rfl) w.heap.size 45 iN _ 5 88 Try.underlying22 hN0 hN1 hN2 hN3 rfl (by omega) v5 L.length (cellsV L) (by rfl) (owns_kept (owns_mono o5.row B4.out.size) (Chg.alloc _ _) (fun _ _ q => by cases q)) (.slice (some ⟨w5.heap.size, 0, none⟩) 1 1) 1 [.string name, .string text, .slice none 0 0, .int .i64 (-1), .slice none 0 0] (by rfl) ((NB.new w5 _ _).raw 1 5 rfl 1) (by simp [Value.oneCell']) (by unfold maxLen; omega) (by omega) (by have := B4.out.size; have := b5.size; simp at *; omega) ?_; intro q6 c6 w6 own6 gr6 at6)
        | (refine step_append_raw (by rfl) _ _ _ (by rfl) w.heap.size 45 iN _ 5 88 Try.underlying22 hN0 hN1 hN2 hN3 rfl (by omega) v5 L.length (cellsV L) (by rfl) (owns_mono o5.row (by have := B4.out.size; simp; omega)) (.slice (some ⟨w4.heap.size, 0, none⟩) 1 1) 1 [.string name, .string text, .slice none 0 0, .int .i64 (-1), .slice none 0 0] (by rfl) (((NB.new w4.drew _ _).chg (Chg.of_below b5) (by simp)).raw 1 5 rfl 1) (by simp [Value.oneCell']) (by unfold maxLen; omega) (by omega) (by have := B4.out.size; have := b5.size; simp at *; omega) ?_; intro q6 c6 w6 own6 gr6 at6)
        | (go_at_call 45; refine (HC.out _ (by first | exact B4.out | exact bel_drewN B4.out 1 | exact Below.alloc (bel_drewN B4.out 1) (by have := B4.out.size; exact this) _)).mono ?_; rintro e w5 ⟨v5, L, rfl, o5, l5, b5⟩; have ll := LL.out L l5; have n5 : ∀ k, v5.ownBlock = some k → n4 < k := (fun k hk => by have := (o5.row.lt k hk).1; have := N4.out.lt; simp at *; omega)))
    all_goals
      go_wp2_with fail
      go_ret3
      first
        | (have B5 : Below w.heap.size w w5 := chain (bel_drewN B4.out 1) b5
           have O5 := OwnD.mono o5 B4.out.size
           have C6 : Chg v5.ownBlock.toList w5 w6 := (Chg.alloc _ _).nil.trans (Chg.of_grown gr6)
           refine ⟨Value.slice q6 (L.length + 1) c6, rfl, pushed O5 l5 (Chg.refl _ _) C6 own6 ?_, B5.trans (C6.below B5.size (fun k q => (O5.row.lt k (opt_mem.1 q)).1))⟩
           rcases at6 with t | t
           · exact .inl t
           · exact .inr (fun k hk => by rw [t] at hk; cases hk; simp))
        | (have B5 : Below w.heap.size w w5 := chain (bel_drewN (B4.out.alloc B4.out.size _) 1) b5
           have O5 := OwnD.mono (base' := w.heap.size) o5 (by have := B4.out.size; simp; omega)
           have C6 : Chg v5.ownBlock.toList w5 w6 := Chg.of_grown gr6
           refine ⟨Value.slice q6 (L.length + 1) c6, rfl, pushed O5 l5 (Chg.refl _ _) C6 own6 ?_, B5.trans (C6.below B5.size (fun k q => (O5.row.lt k (opt_mem.1 q)).1))⟩
           rcases at6 with t | t
           · exact .inl t
           · exact .inr (fun k hk => by rw [t] at hk; cases hk; simp))
  · have e4 : (name.toList == []) = false := by rw [beq_eq_false_iff_ne]; exact e1
    have e5 : name.toList.isEmpty = false := by cases h : name.toList with
      | nil => exact absurd h e1
      | cons => rfl
    have e6 : (text.toList == []) = true := by rw [e3]; rfl
    rw [e2] at HN
    go_enter Try.func13, Try.ntmps13
    go_wp2_with fail
    refine HR.out.mono ?_
    rintro e w0 ⟨rfl, b0⟩
    go_wp2_with fail
    refine (HN.out _).mono ?_
    rintro e w1 ⟨rfl, hw⟩
    have b1 : Below w.heap.size w w1 := by rw [hw]; exact b0
    clear hw b0
    go_wp2_with fail
    refine (HCn.out _).mono ?_
    rintro e w2 ⟨rfl, b2⟩
    have B2 := hide (chain b1 b2)
    go_wp2_with fail
    refine (HCt.out _).mono ?_
    rintro e w3 ⟨rfl, b3⟩
    have B3 := hide (chain B2.out b3)
    have B4 : Hid (Below w.heap.size w (w3.alloc (.cells #[.string name, .string text, .slice none 0 0, .int .i64 (-1), .slice none 0 0] 45))) := B3.out.alloc (by have := B3.out.size; omega) _
    have N4 := hide (NB.new w3 [.string name, .string text, .slice none 0 0, .int .i64 (-1), .slice none 0 0] 45)
    clear b1 b2 b3 B2 HR HCn HCt HN
    obtain ⟨iN, hN0, hN1, hN2, hN3⟩ := info_parts infoN
    go_wp2_with fail
    generalize hw4 : w3.alloc (.cells #[.string name, .string text, .slice none 0 0, .int .i64 (-1), .slice none 0 0] 45) = w4 at *
    generalize w3.heap.size = n4 at *
    have a0 := N4.out.cell 0 rfl
    have a1 := N4.out.cell 1 rfl
    have a2 := N4.out.cell 2 rfl
    have a3 := N4.out.cell 3 rfl
    have a4 := N4.out.cell 4 rfl
    clear hw4 B3
    go_region_held3 (fun w' => w'.cell? ⟨n4, 0, none⟩ = some (.string name) ∧ w'.cell? ⟨n4, 1, none⟩ = some (.string text) ∧ w'.cell? ⟨n4, 2, none⟩ = some (.slice none 0 0) ∧ w'.cell? ⟨n4, 3, none⟩ = some (.int .i64 (-1)) ∧ w'.cell? ⟨n4, 4, none⟩ = some (.slice none 0 0))
      (first | exact keep5 (by assumption) b5 | exact keep5g (by assumption) gr6 n5 | go_keep)
      (first
        | (refine step_append_raw (by rfl) _ _ _ (by rfl) w.heap.size 45 iN _ 5 88 Try.underlying22 hN0 hN1 hN2 hN3 rfl (by omega) v5 L.length (cellsV L) (by rfl) (owns_kept (owns_mono o5.row B4.out.size) (Chg.alloc _ _) (fun _ _ q => by cases q)) (.slice (some ⟨w5.heap.size, 0, none⟩) 1 1) 1 [.string name, .string text, .slice none 0 0, .int .i64 (-1), .slice none 0 0] (by rfl) ((NB.new w5 _ _).raw 1 5 rfl 1) (by simp [Value.oneCell']) (by unfold maxLen; omega) (by omega) (by have := B4.out.size; have := b5.size; simp at *; omega) ?_; intro q6 c6 w6 own6 gr6 at6)
        | (refine step_append_raw (by rfl) _ _ _ (by rfl) w.heap.size 45 iN _ 5 88 Try.underlying22 hN0 hN1 hN2 hN3 rfl (by omega) v5 L.length (cellsV L) (by rfl) (owns_mono o5.row (by have := B4.out.size; simp; omega)) (.slice (some ⟨w4.heap.size, 0, none⟩) 1 1) 1 [.string name, .string text, .slice none 0 0, .int .i64 (-1), .slice none 0 0] (by rfl) (((NB.new w4.drew _ _).chg (Chg.of_below b5) (by simp)).raw 1 5 rfl 1) (by simp [Value.oneCell']) (by unfold maxLen; omega) (by omega) (by have := B4.out.size; have := b5.size; simp at *; omega) ?_; intro q6 c6 w6 own6 gr6 at6)
        | (go_at_call 45; refine (HC.out _ (by first | exact B4.out | exact bel_drewN B4.out 1 | exact Below.alloc (bel_drewN B4.out 1) (by have := B4.out.size; exact this) _)).mono ?_; rintro e w5 ⟨v5, L, rfl, o5, l5, b5⟩; have ll := LL.out L l5; have n5 : ∀ k, v5.ownBlock = some k → n4 < k := (fun k hk => by have := (o5.row.lt k hk).1; have := N4.out.lt; simp at *; omega)))
    all_goals
      go_wp2_with fail
      go_ret3
      first
        | (have B5 : Below w.heap.size w w5 := chain (bel_drewN B4.out 1) b5
           have O5 := OwnD.mono o5 B4.out.size
           have C6 : Chg v5.ownBlock.toList w5 w6 := (Chg.alloc _ _).nil.trans (Chg.of_grown gr6)
           refine ⟨Value.slice q6 (L.length + 1) c6, rfl, pushed O5 l5 (Chg.refl _ _) C6 own6 ?_, B5.trans (C6.below B5.size (fun k q => (O5.row.lt k (opt_mem.1 q)).1))⟩
           rcases at6 with t | t
           · exact .inl t
           · exact .inr (fun k hk => by rw [t] at hk; cases hk; simp))
        | (have B5 : Below w.heap.size w w5 := chain (bel_drewN (B4.out.alloc B4.out.size _) 1) b5
           have O5 := OwnD.mono (base' := w.heap.size) o5 (by have := B4.out.size; simp; omega)
           have C6 : Chg v5.ownBlock.toList w5 w6 := Chg.of_grown gr6
           refine ⟨Value.slice q6 (L.length + 1) c6, rfl, pushed O5 l5 (Chg.refl _ _) C6 own6 ?_, B5.trans (C6.below B5.size (fun k q => (O5.row.lt k (opt_mem.1 q)).1))⟩
           rcases at6 with t | t
           · exact .inl t
           · exact .inr (fun k hk => by rw [t] at hk; cases hk; simp))

end Go.Proofs.Ytkloahpkjbohoaa
