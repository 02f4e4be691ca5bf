package step_test

import (
	"testing"

	"carousel/api"
	"carousel/step"
	"carousel/term"
)

func TestP104Reason(t *testing.T) {
	words := map[api.Errno]string{
		api.OK: "normal", api.ErrKind: "badkind", api.ErrRange: "badrange", api.ErrZero: "badzero", api.ErrParts: "toobig", api.ErrDeep: "toodeep", api.ErrHigh: "toohigh",
	}
	wild := []api.Errno{least, least + 1, -1 << 32, 1 << 32, 1<<32 + 31, 1<<32 + 91, most - 1, most}
	for e := api.Errno(-400); e <= 400; e++ {
		wild = append(wild, e)
	}
	for _, e := range wild {
		word, ok := words[e]
		if !ok {
			word = "badcode"
		}
		if r := step.Reason(e); !same(r, atom(word)) || term.Check(r) != api.OK {
			t.Errorf("Reason(%d): %v, not %s", e, r, word)
		}
	}
}
