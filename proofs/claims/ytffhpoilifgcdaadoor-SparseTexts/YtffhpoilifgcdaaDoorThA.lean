import Derived.Test.YtffhpoilifgcdaaDoorLzA
namespace Go.Proofs.YtffhpoilifgcdaaDoor
open Go.RowKit
theorem tHid {p : Prop} (h : p) : Hid p := h
end Go.Proofs.YtffhpoilifgcdaaDoor
