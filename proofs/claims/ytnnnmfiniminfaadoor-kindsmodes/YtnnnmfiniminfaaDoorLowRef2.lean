/- The document's Lower, for every text that the form's reach lets in. Condition: a text of at most 2^47 - 4096 bytes. -/
import Derived.Test.YtnnnmfiniminfaaDoorLowWalks
namespace Go.Proofs.YtnnnmfiniminfaaDoor
open Go.RowKit

/-- 'out = append(out, c)', a row of bytes of the call's own, up to 2^47 - 1 of them. -/
theorem wpList_append_byteR {P : Program} {t e st : TypeId} (bt : ByteTypes P t e st) {ops : Array Oper} {rest : List Oper} {o : Oper} {a : Act} {Q : Exit → Act → World → Prop} (w : World) (y : Int)
    (hgd : o.guard = none) (s x : Operand) (ho : o.op = .call { callee := .builtin .append, args := #[s, x], argTypes := #[t, t] })
    (base : Nat) (v : Value) (l : List UInt8) (c : UInt8) (hy : y = (c.toNat : Int)) (hs : a.eval s = v) (hown : OwnsB e base w v l)
    (hx : a.eval x = .slice (some ⟨w.heap.size, 0, none⟩) 1 1) (hlen : l.length ≤ 140737488355327) (hbase : base ≤ w.heap.size)
    (h : ∀ v' w', OwnsB e base w' v' (l ++ [c]) → Below base w w' → wpList P ops Q rest (a.put o.dst v') w') : wpList P ops Q (o :: rest) a (w.alloc (.cells #[.int .u8 y] e)) := by
  subst hy
  obtain ⟨i, hi, hz0, hz1, hz2⟩ := info_parts bt.info
  have hown' : (w.alloc (.cells #[.int .u8 (c.toNat : Int)] e)).ownsRow base e 1 v l.length (l.map cellB) := World.ownsRow.alloc hown _
  refine wpList_append_own (P := P) _ hgd s x t ho base e i (.int .u8 0) 1 1 bt.sl hi hz0 hz1 hz2 rfl (by decide) v l.length (l.map cellB) hs hown' ⟨w.heap.size, 0, none⟩ 1 1 [cellB c] hx rfl (cell_one_new _ _ _) (fun u hu => by simp at hu; subst hu; rfl) (by unfold maxLen; omega) (by omega) (by simp; omega) ?_
  intro v' w' h1 h2 _
  refine h v' w' ?_ (((Below.refl base w).alloc hbase _).trans (grown_below hown' h2 (by simp; omega)))
  simpa [OwnsB] using h1

set_option maxHeartbeats 400000 in
theorem refLower_reach (s : ByteArray) (w : World) (hs : s.size ≤ 140737488351232) :
    Calls Tryd.prog 27 #[.string s] w fun e w' => e = .returned (.string (lowS s)) ∧ Below w.heap.size w w' := by
  go_enter Tryd.func27, Tryd.ntmps27
  go_wp2
  go_loopw [3, 4] (fun v i wr => ∃ k : Nat, k ≤ s.size ∧ i = .int .i64 k ∧ OwnsB 5 w.heap.size wr v (lowL (s.data.toList.take k)) ∧ Below w.heap.size w wr) (fun _ i _ => s.size - (intOf i).toNat)
  case atStart => exact ⟨0, Nat.zero_le _, rfl, OwnsB.nil _ _ _, Below.refl _ _⟩
  case round =>
    obtain ⟨k, hk, rfl, hown, hb⟩ := hrel
    by_cases hlt : k < s.size
    · have hll : (lowL (s.data.toList.take k)).length ≤ k := by rw [lowL_length]; exact List.length_take_le _ _
      have HT := hide (lowL_take s k hlt)
      have hsz := hb.size
      have hbe := byteAt_eq s k hlt
      rcases (show (65 ≤ (s[k].toNat : Int) ∧ (s[k].toNat : Int) ≤ 90) ∨ (65 ≤ (s[k].toNat : Int) ∧ 90 < (s[k].toNat : Int)) ∨ (s[k].toNat : Int) < 65 by omega) with ⟨h1, h2⟩ | ⟨h1, h2⟩ | h1
      · have HV : Hid ((s[k].toNat : Int) + 32 = ((lowB (byteAt s k)).toNat : Int)) := by
          rw [← hbe, lowB_yes _ (by omega) (by omega)]; exact (Int.natCast_add _ _).symm
        clear hbe
        go_wp2_with (at_builtin; refine wpList_append_byteR byteTypes wr _ rfl _ _ rfl w.heap.size _ _ (lowB (byteAt s k)) HV.out rfl hown rfl (by omega) (by omega) ?_; intro v' w' hown' hb')
        go_roundw
        case rel => exact ⟨k + 1, by omega, by go_num, by rw [HT.out]; exact hown', hb.trans hb'⟩
        case measure => simp [intOf]; omega
      · have HV : Hid ((s[k].toNat : Int) = ((lowB (byteAt s k)).toNat : Int)) := by
          rw [← hbe, lowB_no _ (by omega)]; exact rfl
        clear hbe
        go_wp2_with (at_builtin; refine wpList_append_byteR byteTypes wr _ rfl _ _ rfl w.heap.size _ _ (lowB (byteAt s k)) HV.out rfl hown rfl (by omega) (by omega) ?_; intro v' w' hown' hb')
        go_roundw
        case rel => exact ⟨k + 1, by omega, by go_num, by rw [HT.out]; exact hown', hb.trans hb'⟩
        case measure => simp [intOf]; omega
      · have HV : Hid ((s[k].toNat : Int) = ((lowB (byteAt s k)).toNat : Int)) := by
          rw [← hbe, lowB_no _ (by omega)]; exact rfl
        clear hbe
        go_wp2_with (at_builtin; refine wpList_append_byteR byteTypes wr _ rfl _ _ rfl w.heap.size _ _ (lowB (byteAt s k)) HV.out rfl hown rfl (by omega) (by omega) ?_; intro v' w' hown' hb')
        go_roundw
        case rel => exact ⟨k + 1, by omega, by go_num, by rw [HT.out]; exact hown', hb.trans hb'⟩
        case measure => simp [intOf]; omega
    · have e : k = s.size := by omega
      subst e
      have ht : s.data.toList.take s.size = s.data.toList := List.take_of_length_le (by simp)
      rw [ht] at hown
      have hend := hown.text byteTypes
      go_wp2
      go_ret
      exact ⟨rfl, hb⟩


end Go.Proofs.YtnnnmfiniminfaaDoor
