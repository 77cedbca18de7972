package press_test

import (
	"fmt"
	"math"
	"reflect"
	"testing"

	"gleaner/api"
	"gleaner/press"
	"gleaner/wire"
)

// What is written is read as it was, what is packed unpacked: series go through both.
func TestSeriesPacked(t *testing.T) {
	var l []api.Series
	for i := range 50 {
		l = append(l, api.Series{
			Labels:  []api.Label{{Name: "__name__", Value: "up"}, {Name: "job", Value: fmt.Sprint("j", i)}},
			Samples: []api.Sample{{Time: 1000 + i, Bits: math.Float64bits(1)}, {Time: -i, Bits: api.BitsStale}},
		})
	}
	text, e := wire.Write(l)
	if e != api.OK {
		t.Fatal(e)
	}
	if n := packs(t, text); 2*n >= len(text) {
		t.Errorf("%d bytes of series are packed in %d", len(text), n)
	}
	packed, _ := press.Pack(text)
	again, e := press.Unpack(packed, api.MaxText)
	if e != api.OK {
		t.Fatal(e)
	}
	if m, e := wire.Read(again); !reflect.DeepEqual(l, m) || e != api.OK {
		t.Errorf("they are read as %v %d", m, e)
	}
}
