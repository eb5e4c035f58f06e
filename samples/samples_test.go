package samples

import (
	"strings"
	"testing"
)

func TestEach(t *testing.T) {
	var got []string
	Each([]string{"a", "bc"}, 2, func(s string) { got = append(got, s) })
	if s := strings.Join(got, " "); s != " a bc aa abc bca bcbc" {
		t.Errorf("%q", s)
	}
}
