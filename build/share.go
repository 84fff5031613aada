package build

import "sync"

// share has the numbers below n done by the workers, who take them from a channel; all have ended when it answers.
func (b *Builder) share(n int, do func(i int)) {
	numbers := make(chan int)
	var group sync.WaitGroup
	for range b.workers {
		group.Add(1)
		go func() {
			defer group.Done()
			for i := range numbers {
				do(i)
			}
		}()
	}
	for i := range n {
		numbers <- i
	}
	close(numbers)
	group.Wait()
}
