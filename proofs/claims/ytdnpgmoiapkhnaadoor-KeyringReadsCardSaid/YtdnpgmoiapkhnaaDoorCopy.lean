/- Plain words: bytes of a text copied into what a Hash keeps. -/
import Derived.Test.YtdnpgmoiapkhnaaDoorM19
import Derived.Test.YtdnpgmoiapkhnaaDoorM16
namespace Go.Proofs.YtdnpgmoiapkhnaaDoor
open Go.RowKit

section
variable {w : World} {b : Nat} {st : St} {buf : List UInt8} {n : Nat}
theorem hash_length (st : St) (buf : List UInt8) (n : Nat) (hb : buf.length = 64) : (hashCells st buf n).length = 74 := by simp [hashCells, mid, hashPost, St.list, hb]
/-- The count told anew. -/
theorem hash_counted (h : Blk w b 156 (hashCells st buf n)) (hb : buf.length = 64) (x : Int) (n' : Nat) (hx : x = (n' : Int)) : Blk (w.setCell ⟨b, 73, none⟩ (.int .u64 x)) b 156 (hashCells st buf n') := by
  have := h.set_ 73 (.int .u64 x)
  subst hx
  have e : (hashCells st buf n).set 73 (.int .u64 (n' : Int)) = hashCells st buf n' := by
    unfold hashCells mid hashPost
    rw [List.set_append_right _ _ (by simp), List.set_append_right _ _ (by simp [St.list]), List.set_append_right _ _ (by simp [St.list, hb])]
    simp [St.list, hb]
  rw [e] at this
  exact this
/-- Bytes k of l laid from place i on. -/
def laidIn (buf l : List UInt8) (i k : Nat) : List UInt8 := buf.take i ++ l.take k ++ buf.drop (i + k)
theorem laidIn_length {buf l : List UInt8} {i k : Nat} (hb : buf.length = 64) (hl : k ≤ l.length) (hi : i + k ≤ 64) : (laidIn buf l i k).length = 64 := by simp [laidIn, hb]; omega
theorem hash_laid (st : St) (buf l : List UInt8) (n i k : Nat) (hb : buf.length = 64) (hi : i + k ≤ 64) :
    (hashCells st buf n).take (9 + i) ++ (l.take k).map cellOf ++ (hashCells st buf n).drop (9 + i + k) = hashCells st (laidIn buf l i k) n := by
  have e : hashCells st buf n = (Value.bool true :: st.list.map cell32) ++ (buf.map cellOf ++ [.int .u64 (n : Int)]) := by simp [hashCells, mid, hashPost]
  have e2 : hashCells st (laidIn buf l i k) n = (Value.bool true :: st.list.map cell32) ++ ((laidIn buf l i k).map cellOf ++ [.int .u64 (n : Int)]) := by simp [hashCells, mid, hashPost]
  have hl : (Value.bool true :: st.list.map cell32).length = 9 := by simp [St.list]
  rw [e, e2]
  generalize (Value.bool true :: st.list.map cell32) = H at *
  have e3 : 9 + i = H.length + i := by omega
  have e4 : H.length + i + k = H.length + (i + k) := by omega
  rw [e3, List.take_length_add_append, e4, List.drop_length_add_append, List.take_append_of_le_length (by simp; omega), List.drop_append_of_le_length (by simp; omega)]
  simp [laidIn, List.map_append, List.map_take, List.map_drop]
theorem hash_copied (h : Blk w b 156 (hashCells st buf n)) (hb : buf.length = 64) (ty : TypeId) (s : ByteArray) (i dCap k : Nat) (hi : i ≤ 64) (hk : k = min s.size (64 - i)) :
    (Builtin.copy_ #[35, 9] ty #[.slice (some ⟨b, 9 + i, none⟩) (64 - i) dCap, .string s]).run Tryd.prog w = .ok (goInt k) (w.setRow b (hashCells st (laidIn buf s.data.toList i k) n).toArray) := by
  rw [run_copy_text w ty b (9 + i) (64 - i) dCap s _ _ h (by rw [hash_length _ _ _ hb]; omega) k hk, hash_laid st buf s.data.toList n i k hb (by omega)]
theorem hash_row (h : Blk w b 156 (hashCells st buf n)) (cs : List Value) : Blk (w.setRow b cs.toArray) b 156 cs := setRow_heap _ _ _ _ _ _ h
end
end Go.Proofs.YtdnpgmoiapkhnaaDoor
